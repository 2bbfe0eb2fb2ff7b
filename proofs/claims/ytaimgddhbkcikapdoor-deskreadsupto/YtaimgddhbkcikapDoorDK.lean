/-
  The document's step of a line.
-/
import Derived.Test.YtaimgddhbkcikapDoorDJ
import Derived.Test.YtaimgddhbkcikapDoorD8
import Derived.Laws.AppendOwn
import Derived.Laws.AppendOwnNone
import Derived.Laws.OwnMore
namespace Go.Proofs.YtaimgddhbkcikapDoor
open Go Go.RowKit Go.Sort Go.Shelf
open Plain
set_option maxRecDepth 100000

theorem Tryd.infoString : (Tryd.prog.info? 9).map (fun i => (i.zero, i.size, i.bytes)) = some (some (.string ⟨#[]⟩), 1, 16) := by kernel_rfl
theorem info_str : ∃ i, Tryd.prog.info? 9 = some i ∧ i.zero = some (.string ⟨#[]⟩) ∧ i.size = 1 ∧ i.bytes = 16 := by
  have := Tryd.infoString
  cases h : Tryd.prog.info? 9 with
  | none => rw [h] at this; cases this
  | some i =>
    rw [h] at this
    simp only [Option.map_some, Option.some.injEq, Prod.mk.injEq] at this
    exact ⟨i, rfl, this⟩
theorem below_app {w W w1 wr : World} {B : Nat} {v : Value} {n e : Nat} {xs : List Value} (hW : Below B w W) (hB : B ≤ W.heap.size) (hg : W.grownBy w1 v.ownBlock) (hown : wr.ownsRow B e 1 v n xs) : Below B w w1 :=
  hW.grown hg hB (fun j hj => (hown.lt j hj).1)
/-- How far the words are. -/
def SplI (l : List UInt8) (i : Nat) (W : List (List UInt8)) (acc : List UInt8) : Prop :=
  ((i ≤ l.length ∧ W ++ spl (l.drop i) acc = spl l []) ∨ (i = l.length + 1 ∧ W = spl l [])) ∧ W.length ≤ i ∧ acc.length ≤ i
abbrev svals (W : List (List UInt8)) : List Value := W.map fun x => bs x
theorem str_slice (l : List UInt8) (i : Nat) (hi : i < l.length) (w : World) : (Instr.sliceAt 9 (bs l) (some (.int .i64 (i : Int))) (some (.int .i64 ((i : Int) + 1))) none).run Tryd.prog w = .ok (bs [l[i]]) w := by
  have u := Tryd.underlying9
  have c1 : (0 : Int) ≤ i := by omega
  have c2 : (i : Int) ≤ i + 1 := by omega
  have c3 : (i + 1 : Int) ≤ l.length := by omega
  have c4 : (0 : Int) ≤ i + 1 := by omega
  go_simp
  refine ByteArray.ext ?_
  rw [ByteArray.data_extract]
  refine Array.ext' ?_
  simp only [List.extract_toArray]
  show (l.drop i).take (i + 1 - i) = _
  rw [Nat.add_sub_cancel_left, List.drop_eq_getElem_cons hi]
  rfl
theorem new1 (w : World) (v : Value) (t : TypeId) : (w.alloc (.cells #[v] t)).cell? ⟨w.heap.size, 0, none⟩ = some v := by
  have : (w.alloc (.cells #[v] t)).heap[w.heap.size]? = some (.cells #[v] t (0, 0)) := by show (w.heap.push _)[w.heap.size]? = _; simp
  rw [cell_block this]
  rfl
theorem spl_here {l : List UInt8} {i : Nat} {W : List (List UInt8)} {acc : List UInt8} (h : SplI l i W acc) (hi : i ≤ l.length) : W ++ spl (l.drop i) acc = spl l [] := by
  rcases h.1 with ⟨_, e⟩ | ⟨e, _⟩
  · exact e
  · omega
theorem spl_fin {l : List UInt8} {i : Nat} {W : List (List UInt8)} {acc : List UInt8} (h : SplI l i W acc) (hi : ¬ i ≤ l.length) : W = spl l [] := by
  rcases h.1 with ⟨e, _⟩ | ⟨_, e⟩
  · omega
  · exact e
theorem spl_end {l : List UInt8} {W : List (List UInt8)} {acc : List UInt8} (h : SplI l l.length W acc) : SplI l (l.length + 1) (W ++ [acc]) [] := by
  have := spl_here h (Nat.le_refl _)
  rw [List.drop_length, spl] at this
  exact ⟨.inr ⟨rfl, this⟩, by have := h.2.1; simp; omega, by simp⟩
theorem spl_blank {l : List UInt8} {i : Nat} {W : List (List UInt8)} {acc : List UInt8} (h : SplI l i W acc) (hi : i < l.length) (hc : (l[i]).toNat = 32) : SplI l (i + 1) (W ++ [acc]) [] := by
  have := spl_here h (Nat.le_of_lt hi)
  rw [List.drop_eq_getElem_cons hi, spl, if_pos hc] at this
  exact ⟨.inl ⟨hi, by rw [List.append_assoc]; exact this⟩, by have := h.2.1; simp; omega, by simp⟩
theorem spl_sign {l : List UInt8} {i : Nat} {W : List (List UInt8)} {acc : List UInt8} (h : SplI l i W acc) (hi : i < l.length) (hc : ¬ (l[i]).toNat = 32) : SplI l (i + 1) W (acc ++ [l[i]]) := by
  have := spl_here h (Nat.le_of_lt hi)
  rw [List.drop_eq_getElem_cons hi, spl, if_neg hc] at this
  exact ⟨.inl ⟨hi, this⟩, by have := h.2.1; omega, by have := h.2.2; simp; omega⟩
theorem cat0 (a b : List UInt8) : Value.string ((⟨a.toArray⟩ : ByteArray) ++ (⟨b.toArray⟩ : ByteArray)) = bs (a ++ b) := congrArg Value.string (ByteArray.ext (by simp))
/-- Five numbers in a block. -/
def NsI (w : World) (N : Nat) (F : Nat → Int) : Prop := w.heap[N]? = some (.cells #[.int .i64 (F 0), .int .i64 (F 1), .int .i64 (F 2), .int .i64 (F 3), .int .i64 (F 4)] 46 (0, 0))
theorem NsI.at {w : World} {N : Nat} {F : Nat → Int} (h : NsI w N F) {j : Nat} (hj : j < 5) : w.cell? ⟨N, j, none⟩ = some (.int .i64 (F j)) := by
  rw [cell_block h]
  have : j = 0 ∨ j = 1 ∨ j = 2 ∨ j = 3 ∨ j = 4 := by omega
  rcases this with rfl | rfl | rfl | rfl | rfl <;> rfl
theorem NsI.set {w : World} {N : Nat} {F : Nat → Int} (h : NsI w N F) {j : Nat} (hj : j < 5) (n : Int) : NsI (w.setCell ⟨N, j, none⟩ (.int .i64 n)) N (fun t => if t = j then n else F t) := by
  unfold NsI
  rw [set_block h]
  have : j = 0 ∨ j = 1 ∨ j = 2 ∨ j = 3 ∨ j = 4 := by omega
  rcases this with rfl | rfl | rfl | rfl | rfl <;> rfl
theorem spl_len : ∀ (l acc : List UInt8), ∀ x ∈ spl l acc, x.length ≤ acc.length + l.length
  | [], acc, x, h => by simp [spl] at h; subst h; simp
  | c :: r, acc, x, h => by
    rw [spl] at h
    split at h
    · rcases List.mem_cons.1 h with rfl | h
      · simp
      · have := spl_len r [] x h; simp at this ⊢; omega
    · have := spl_len r _ x h; simp at this ⊢; omega
set_option maxHeartbeats 8000000 in
theorem rread_c (l : List UInt8) (hl : l.length ≤ 1048576) (w : World) : Calls Tryd.prog 10 #[bs l] w fun e w' => e = .returned (.tuple #[.agg (stC (rdS l)), .int .i64 (rdE l)]) ∧ Below w.heap.size w w' := by
  obtain ⟨i0, hi0, hz0, hz1, hz2⟩ := info_str
  obtain ⟨RS, hRS⟩ : ∃ RS, RS = rdS l := ⟨_, rfl⟩
  obtain ⟨RE, hRE⟩ : ∃ RE, RE = rdE l := ⟨_, rfl⟩
  have HRS := hid hRS
  have HRE := hid hRE
  rw [← hRS, ← hRE]
  clear hRS hRE
  obtain ⟨WA, hWA⟩ : ∃ WA, WA = w.alloc (.cells #[.int .i64 0, .int .i64 0, .int .i64 0, .int .i64 0, .int .i64 0, .int .i64 0, .int .i64 0, .int .i64 0] 23) := ⟨_, rfl⟩
  have BA := hid (show Below w.heap.size w WA by rw [hWA]; exact (Below.refl _ _).alloc (Nat.le_refl _) _)
  have XA := hid (show BoxS WA w.heap.size ⟨0, 0, 0, 0, 0, 0, 0, 0⟩ by rw [hWA]; unfold BoxS; show (w.heap.push _)[w.heap.size]? = _; simp)
  have hsA : WA.heap.size = w.heap.size + 1 := by rw [hWA]; exact Array.size_push _
  obtain ⟨B, hB⟩ : ∃ B, B = w.heap.size + 1 := ⟨_, rfl⟩
  have HB := hid hB
  go_enter Tryd.func10, Tryd.ntmps10
  go_wp2_with fail
  rw [← hWA]
  rw [← hB] at hsA
  clear hWA hB
  go_loopw [4, 5, 6] (fun v4 v5 v6 wr => ∃ (i : Nat) (W : List (List UInt8)) (acc : List UInt8), i ≤ l.length + 1 ∧ v6 = .int .i64 (i : Int) ∧ v5 = bs acc ∧ wr.ownsRow B 9 1 v4 W.length (svals W) ∧ Hid (Below B WA wr) ∧ Hid (SplI l i W acc)) (fun _ _ v6 _ => l.length + 1 - (intOf v6).toNat)
  case atStart => exact ⟨0, [], [], Nat.zero_le _, rfl, rfl, World.ownsRow_nil _ _ _ _, hid (Below.refl _ _), hid ⟨.inl ⟨Nat.zero_le _, rfl⟩, Nat.le_refl _, Nat.le_refl _⟩⟩
  case round =>
    obtain ⟨i, W, acc, hi, rfl, rfl, hown, HW, HS⟩ := hrel
    by_cases hle : i ≤ l.length
    · have hle' : (i : Int) ≤ (l.length : Int) := by omega
      by_cases hlt : i < l.length
      · have hne : ((i : Int) == (l.length : Int)) = false := by rw [beq_eq_false_iff_ne]; omega
        obtain ⟨c, hc⟩ : ∃ c, c = (l[i]).toNat := ⟨_, rfl⟩
        have hidx := fun w => str_index l i hlt w
        rw [← hc] at hidx
        have HC := hid hc
        clear hc
        by_cases h32 : c = 32
        · have h32' : ((c : Int) == 32) = true := by rw [h32]; rfl
          have hle2 : i ≤ l.length := hle
          go_wp2_with (first
            | (at_builtin; refine wpList_append_own _ rfl _ _ 45 rfl B 9 i0 (.string ⟨#[]⟩) 1 16 Tryd.underlying45 hi0 hz0 hz1 hz2 rfl (by decide) _ _ _ rfl (hown.alloc _) ⟨wr.heap.size, 0, none⟩ 1 1 [bs acc] rfl rfl ?c1 ?c2 ?c3 ?c4 ?c5 ?_)
            | fail)
          case c1 =>
            intro j u hj
            match j, hj with
            | 0, hj => simp at hj; subst hj; exact new1 wr _ _
          case c2 => intro u hu; simp at hu; subst hu; rfl
          case c3 => have := HS.out.2.1; unfold maxLen; omega
          case c4 => have := HS.out.2.1; omega
          case c5 => have := HW.out.size; simp; omega
          intro v' w1 hown' hgrow _
          have HW1 := hid (show Below B WA w1 from below_app (HW.out.alloc (by have := HW.out.size; omega) _) (by have := HW.out.size; simp; omega) hgrow hown)
          have OW1 := hid (show w1.ownsRow B 9 1 v' (W ++ [acc]).length (svals (W ++ [acc])) by rw [List.length_append]; simp only [svals, List.map_append, List.map_cons, List.map_nil, List.length_singleton]; exact hown')
          clear hown' hgrow hown HW
          go_wp2_with fail
          refine ⟨⟨i + 1, W ++ [acc], [], by omega, by go_num, rfl, OW1.out, HW1, hid (spl_blank HS.out hlt (by rw [← HC.out]; exact h32))⟩, ?_⟩
          simp [intOf] <;> omega
        · have h32' : ((c : Int) == 32) = false := by rw [beq_eq_false_iff_ne]; omega
          have hsl := fun w => str_slice l i hlt w
          obtain ⟨cc, hcc⟩ : ∃ cc, cc = l[i] := ⟨_, rfl⟩
          rw [← hcc] at hsl
          have HCC := hid hcc
          have hac := HS.out.2.2
          have hcat : ¬ (9223372036854775807 < acc.length + 1) := by omega
          have HP := hid (spl_sign HS.out hlt (by rw [← HC.out]; exact h32))
          rw [← hcc] at HP
          clear hcc hac
          go_wp2_with fail
          refine ⟨⟨i + 1, W, acc ++ [cc], by omega, by go_num, cat0 acc [cc], hown, HW, HP⟩, ?_⟩
          simp [intOf] <;> omega
      · obtain rfl : i = l.length := by omega
        clear hlt
        go_wp2_with (first
          | (at_builtin; refine wpList_append_own _ rfl _ _ 45 rfl B 9 i0 (.string ⟨#[]⟩) 1 16 Tryd.underlying45 hi0 hz0 hz1 hz2 rfl (by decide) _ _ _ rfl (hown.alloc _) ⟨wr.heap.size, 0, none⟩ 1 1 [bs acc] rfl rfl ?c1 ?c2 ?c3 ?c4 ?c5 ?_)
          | fail)
        case c1 =>
          intro j u hj
          match j, hj with
          | 0, hj => simp at hj; subst hj; exact new1 wr _ _
        case c2 => intro u hu; simp at hu; subst hu; rfl
        case c3 => have := HS.out.2.1; unfold maxLen; omega
        case c4 => have := HS.out.2.1; omega
        case c5 => have := HW.out.size; simp; omega
        intro v' w1 hown' hgrow _
        have HW1 := hid (show Below B WA w1 from below_app (HW.out.alloc (by have := HW.out.size; omega) _) (by have := HW.out.size; simp; omega) hgrow hown)
        have OW1 := hid (show w1.ownsRow B 9 1 v' (W ++ [acc]).length (svals (W ++ [acc])) by rw [List.length_append]; simp only [svals, List.map_append, List.map_cons, List.map_nil, List.length_singleton]; exact hown')
        clear hown' hgrow hown HW
        go_wp2_with fail
        refine ⟨⟨l.length + 1, W ++ [acc], [], by omega, by go_num, rfl, OW1.out, HW1, hid (spl_end HS.out)⟩, ?_⟩
        simp [intOf] <;> omega
    · have hle' : ¬ ((i : Int) ≤ (l.length : Int)) := by omega
      have hW := spl_fin HS.out hle
      subst hW
      have hwn : 0 < (spl l []).length := by
        rcases Nat.eq_zero_or_pos (spl l []).length with h | h
        · exact absurd (List.length_eq_zero_iff.1 h) (spl_ne _ _)
        · exact h
      have hwl : (spl l []).length ≤ l.length + 1 := by have := HS.out.2.1; omega
      have HOW := hid hown
      rcases hown.2 with ⟨rfl, e⟩ | ⟨g, cap, cur, rfl, _, _, _, _, _, _⟩
      · omega
      have HG := hid (show ∀ j (hj : j < (spl l []).length), wr.cell? ⟨g, j, none⟩ = some (bs ((spl l [])[j])) from fun j hj => by
        have := HOW.out.cells (g := g) rfl j (bs ((spl l [])[j])) (by simp [svals, hj])
        by_cases h0 : j = 0
        · subst h0; simpa [Addr.add] using this
        · simpa [Addr.add, h0] using this)
      have hglt : g < wr.heap.size := (HOW.out.lt g rfl).2
      have X1 := hid (XA.out.keep (HW.out.block _ (by have := HB.out; omega)))
      have BW := hid (show Below w.heap.size w wr from BA.out.trans (HW.out.mono (by have := HB.out; omega)))
      obtain ⟨WL, hWL⟩ : ∃ WL, WL = spl l [] := ⟨_, rfl⟩
      rw [← hWL] at HG hwn hwl ⊢
      have HWL := hid hWL
      clear hWL HOW hown HS XA
      obtain ⟨N5, hN5⟩ : ∃ N5, N5 = wr.heap.size := ⟨_, rfl⟩
      obtain ⟨W5, hW5⟩ : ∃ W5, W5 = wr.alloc (.cells #[.int .i64 0, .int .i64 0, .int .i64 0, .int .i64 0, .int .i64 0] 46) := ⟨_, rfl⟩
      have hs5 : N5 < W5.heap.size := by rw [hW5, hN5]; show _ < (wr.heap.push _).size; simp
      have I5 := hid (show NsI W5 N5 (fun _ => 0) by unfold NsI; rw [hW5, hN5]; show (wr.heap.push _)[wr.heap.size]? = _; simp)
      have B5 := hid (show Below N5 wr W5 by rw [hW5, hN5]; exact (Below.refl _ _).alloc (Nat.le_refl _) _)
      have hlen' : ((WL.length : Nat) : Int) ≤ 1048577 := by omega
      go_wp2_with fail
      rw [← hW5, ← hN5]
      rw [← hN5] at hglt
      have HN5 := hid hN5
      clear hW5 hN5
      obtain ⟨wo, hwo⟩ : ∃ wo, wo = wr := ⟨_, rfl⟩
      subst hwo
      go_loopw [8] (fun v8 wx => ∃ (j : Nat) (F : Nat → Int), 1 ≤ j ∧ j ≤ 5 ∧ v8 = .int .i64 (j : Int) ∧ Hid (NsI wx N5 F ∧ Below N5 wo wx ∧ N5 < wx.heap.size) ∧ Hid (∀ t, 1 ≤ t → F t = if t < j then numAt l t else 0)) (fun v8 _ => 5 - (intOf v8).toNat)
      case atStart => exact ⟨1, fun _ => 0, by omega, by omega, rfl, hid ⟨I5.out, B5.out, hs5⟩, hid fun t ht => by rw [if_neg (by omega)]⟩
      case round =>
        obtain ⟨j, F, hj1, hj5, rfl, HI, HF⟩ := hrel
        have hge : w.heap.size < N5 := by have := X1.out.lt; have := HN5.out; omega
        have XJ := hid (X1.out.keep (HI.out.2.1.block _ hge))
        have BJ := hid (BW.out.trans (HI.out.2.1.mono (Nat.le_of_lt hge)))
        by_cases hjj : j < WL.length ∧ j < 5
        · obtain ⟨hjl, hj5'⟩ := hjj
          have hjl' : (j : Int) < (WL.length : Int) := by omega
          have hj5i : (j : Int) < 5 := by omega
          have hj0 : (0 : Int) ≤ (j : Int) := by omega
          obtain ⟨x, hx⟩ : ∃ x, x = WL[j] := ⟨_, rfl⟩
          have cw : wr.cell? ⟨g, j, none⟩ = some (bs x) := by
            rw [hx]
            have e := HI.out.2.1.block g hglt
            have := HG.out j hjl
            unfold World.cell? at this ⊢
            simp only at this ⊢
            rw [e]
            exact this
          have hxl : x.length ≤ 281474976710656 := by
            have h1 := spl_len l [] x (by rw [← HWL.out, hx]; exact List.getElem_mem _)
            simp at h1
            omega
          have KU := hid (undeci_c x hxl wr)
          unfold UnP at KU
          have HX := hid hx
          obtain ⟨cn, hcn⟩ : ∃ cn, cn = canon x := ⟨_, rfl⟩
          rw [← hcn] at KU
          have HCN := hid hcn
          clear hx hcn
          go_wp2_with fail
          refine KU.out.mono ?_
          rintro e w6 ⟨n, rfl, rfl, hn⟩
          have HN := hid hn
          clear KU hn
          cases cn
          · obtain ⟨z0, z1, z2, z3, z4, z5, z6, z7⟩ := BoxS.cell XJ.out
            simp only at z0 z1 z2 z3 z4 z5 z6 z7
            have q0 := frozen_block XJ.out 0
            have q1 := frozen_block XJ.out 1
            have q2 := frozen_block XJ.out 2
            have q3 := frozen_block XJ.out 3
            have q4 := frozen_block XJ.out 4
            have q5 := frozen_block XJ.out 5
            have q6 := frozen_block XJ.out 6
            have q7 := frozen_block XJ.out 7
            go_wp2_with fail
            obtain ⟨W9, hW9⟩ : ∃ W9, W9 = ((((((((w6.setCell ⟨w.heap.size, 0, none⟩ (.int .i64 0)).setCell ⟨w.heap.size, 1, none⟩ (.int .i64 0)).setCell ⟨w.heap.size, 2, none⟩ (.int .i64 0)).setCell ⟨w.heap.size, 3, none⟩ (.int .i64 0)).setCell ⟨w.heap.size, 4, none⟩ (.int .i64 0)).setCell ⟨w.heap.size, 5, none⟩ (.int .i64 0)).setCell ⟨w.heap.size, 6, none⟩ (.int .i64 0)).setCell ⟨w.heap.size, 7, none⟩ (.int .i64 0)) := ⟨_, rfl⟩
            rw [← hW9]
            have h9 : W9 = putP w6 w.heap.size ⟨0, 0, 0, 0, 0, 0, 0, 0⟩ := hW9
            have X9 : BoxS W9 w.heap.size ⟨0, 0, 0, 0, 0, 0, 0, 0⟩ := by rw [h9]; exact putP_box XJ.out _
            have B9 : Below w.heap.size w W9 := by rw [h9]; exact putP_below BJ.out (Nat.le_refl _) _
            clear hW9 h9
            refine bodyPost_P2 rfl w.heap.size ⟨0, 0, 0, 0, 0, 0, 0, 0⟩ rfl X9 rfl ⟨?_, B9⟩
            have hb := word_bad (l := l) (j := j) (by rw [← HWL.out]; exact hjl) hj1 (by have := HCN.out; rw [this]; congr 1; rw [HX.out]; congr 1; exact HWL.out.symm)
            rw [HRS.out, HRE.out, hb.1, hb.2]
            rfl
          · have hnv : n = numAt l j := by
              rw [HN.out rfl]
              unfold numAt
              rw [← HWL.out, List.getElem?_eq_getElem hjl, HX.out]
            have I6 := hid (NsI.set HI.out.1 hj5' n)
            have C6 : w6.cell? ⟨N5, j, none⟩ = some (.int .i64 (F j)) := NsI.at HI.out.1 hj5'
            have Z6 : w6.frozen? ⟨N5, j, none⟩ = false := frozen_block HI.out.1 j
            have HNV := hid hnv
            clear hnv
            go_wp2_with fail
            refine ⟨⟨j + 1, fun t => if t = j then n else F t, by omega, by omega, by go_num, hid ⟨I6.out, set_below HI.out.2.1 (Nat.le_refl _), by simpa [World.setCell] using HI.out.2.2⟩, hid fun t ht => ?_⟩, ?_⟩
            · by_cases e : t = j
              · subst e; simp only [if_true]; rw [if_pos (by omega)]; exact HNV.out
              · simp only [if_neg e]
                rw [HF.out t ht]
                by_cases h2 : t < j
                · rw [if_pos h2, if_pos (by omega)]
                · rw [if_neg h2, if_neg (by omega)]
            · simp [intOf] <;> omega
        · have HFF := hid (show ∀ t, 1 ≤ t → t ≤ 4 → F t = numAt l t from fun t h1 h4 => by
            rw [HF.out t h1]
            by_cases h2 : t < j
            · rw [if_pos h2]
            · rw [if_neg h2]
              unfold numAt
              rw [List.getElem?_eq_none (by rw [← HWL.out]; omega)])
          obtain ⟨f1, hf1⟩ : ∃ f1, f1 = F 1 := ⟨_, rfl⟩
          obtain ⟨f2, hf2⟩ : ∃ f2, f2 = F 2 := ⟨_, rfl⟩
          obtain ⟨f3, hf3⟩ : ∃ f3, f3 = F 3 := ⟨_, rfl⟩
          obtain ⟨f4, hf4⟩ : ∃ f4, f4 = F 4 := ⟨_, rfl⟩
          have LS := hid (show ∀ k, lineS f1 f2 f3 f4 k = lnS l k from fun k => by rw [hf1, hf2, hf3, hf4, HFF.out 1 (by omega) (by omega), HFF.out 2 (by omega) (by omega), HFF.out 3 (by omega) (by omega), HFF.out 4 (by omega) (by omega)])
          have N5I := hid HI.out.1
          unfold NsI at N5I
          rw [← hf1, ← hf2, ← hf3, ← hf4] at N5I
          have hlt5 := HI.out.2.2
          clear hf1 hf2 hf3 hf4
          obtain ⟨wp, hwp⟩ : ∃ wp, wp = wr := ⟨_, rfl⟩
          subst hwp
          have hw5 : (j : Int) < (WL.length : Int) → ¬ (j : Int) < 5 := fun h => by omega
          rcases (show ¬ ((j : Int) < (WL.length : Int)) ∨ ((j : Int) < (WL.length : Int) ∧ ¬ ((j : Int) < 5)) by omega) with hq | ⟨hq, hq5⟩
          all_goals
            go_wp2_with fail
            go_loopw [11] (fun v11 wx => ∃ k : Nat, 1 ≤ k ∧ k ≤ 12 ∧ v11 = .int .i64 (k : Int) ∧ Hid (Below (N5 + 1) wp wx) ∧ Hid (∀ t, 1 ≤ t → t < k → lnL l t ≠ l)) (fun v11 _ => 12 - (intOf v11).toNat)
            case atStart => exact ⟨1, by omega, by omega, rfl, hid (Below.refl _ _), hid fun t h1 h2 => by omega⟩
            case round =>
              obtain ⟨k, hk1, hk12, rfl, HX, HL⟩ := hrel
              have hszx : N5 + 1 ≤ wr.heap.size := by have := HX.out.size; omega
              have hne5 : ¬ N5 = wr.heap.size := by omega
              have hlt6 : N5 < wr.heap.size := by omega
              have NX : wr.heap[N5]? = some (.cells #[.int .i64 (F 0), .int .i64 f1, .int .i64 f2, .int .i64 f3, .int .i64 f4] 46 (0, 0)) := (HX.out.block N5 (by omega)).trans N5I.out
              have y1 : wr.cell? ⟨N5, 1, none⟩ = some (.int .i64 f1) := by rw [cell_block NX]; rfl
              have y2 : wr.cell? ⟨N5, 2, none⟩ = some (.int .i64 f2) := by rw [cell_block NX]; rfl
              have y3 : wr.cell? ⟨N5, 3, none⟩ = some (.int .i64 f3) := by rw [cell_block NX]; rfl
              have y4 : wr.cell? ⟨N5, 4, none⟩ = some (.int .i64 f4) := by rw [cell_block NX]; rfl
              have XK := hid (XJ.out.keep (HX.out.block _ (by omega)))
              have BK := hid (BJ.out.trans (HX.out.mono (by omega)))
              by_cases hk : k = 12
              · subst hk
                have hnf := none_found (l := l) fun t h1 h2 => HL.out t h1 h2
                have HNF := hid hnf
                clear hnf y1 y2 y3 y4 NX
                obtain ⟨z0, z1, z2, z3, z4, z5, z6, z7⟩ := BoxS.cell XK.out
                simp only at z0 z1 z2 z3 z4 z5 z6 z7
                have q0 := frozen_block XK.out 0
                have q1 := frozen_block XK.out 1
                have q2 := frozen_block XK.out 2
                have q3 := frozen_block XK.out 3
                have q4 := frozen_block XK.out 4
                have q5 := frozen_block XK.out 5
                have q6 := frozen_block XK.out 6
                have q7 := frozen_block XK.out 7
                go_wp2_with fail
                obtain ⟨W9, hW9⟩ : ∃ W9, W9 = ((((((((wr.setCell ⟨w.heap.size, 0, none⟩ (.int .i64 0)).setCell ⟨w.heap.size, 1, none⟩ (.int .i64 0)).setCell ⟨w.heap.size, 2, none⟩ (.int .i64 0)).setCell ⟨w.heap.size, 3, none⟩ (.int .i64 0)).setCell ⟨w.heap.size, 4, none⟩ (.int .i64 0)).setCell ⟨w.heap.size, 5, none⟩ (.int .i64 0)).setCell ⟨w.heap.size, 6, none⟩ (.int .i64 0)).setCell ⟨w.heap.size, 7, none⟩ (.int .i64 0)) := ⟨_, rfl⟩
                rw [← hW9]
                have h9 : W9 = putP wr w.heap.size ⟨0, 0, 0, 0, 0, 0, 0, 0⟩ := hW9
                have X9 : BoxS W9 w.heap.size ⟨0, 0, 0, 0, 0, 0, 0, 0⟩ := by rw [h9]; exact putP_box XK.out _
                have B9 : Below w.heap.size w W9 := by rw [h9]; exact putP_below BK.out (Nat.le_refl _) _
                clear hW9 h9
                refine bodyPost_P2 rfl w.heap.size ⟨0, 0, 0, 0, 0, 0, 0, 0⟩ rfl X9 rfl ⟨?_, B9⟩
                rw [HRS.out, HRE.out, HNF.out.1, HNF.out.2]
                rfl
              · have hkk : k = 1 ∨ k = 2 ∨ k = 3 ∨ k = 4 ∨ k = 5 ∨ k = 6 ∨ k = 7 ∨ k = 8 ∨ k = 9 ∨ k = 10 ∨ k = 11 := by omega
                have hin : ∀ k, InSp (lineS f1 f2 f3 f4 k) := fun k => by rw [LS.out k]; exact lineS_in _ _ _ _ (numAt_in _ _) (numAt_in _ _) (numAt_in _ _) (numAt_in _ _) k
                have HIN := hid hin
                clear hin hk
                rcases hkk with rfl | rfl | rfl | rfl | rfl | rfl | rfl | rfl | rfl | rfl | rfl
                · have KS := hid (rshow_c (lineS f1 f2 f3 f4 1) (HIN.out 1) (wr.alloc (.cells (stC ⟨1, f1, f2, f3, 0, 0, 0, 0⟩) 23)))
                  have hsh := line_show f1 f2 f3 f4 1 (by omega) (by omega)
                  rw [hsh.1, hsh.2] at KS
                  obtain ⟨LK, hLK⟩ : ∃ LK, LK = lineL f1 f2 f3 f4 1 := ⟨_, rfl⟩
                  rw [← hLK] at KS
                  have HLK := hid (show LK = lnL l 1 by rw [hLK]; unfold lineL; rw [LS.out 1]; rfl)
                  obtain ⟨N6, hN6⟩ : ∃ N6, N6 = wr.heap.size := ⟨_, rfl⟩
                  have YB := hid (show BoxS (wr.alloc (.cells (stC ⟨1, f1, f2, f3, 0, 0, 0, 0⟩) 23)) N6 ⟨1, f1, f2, f3, 0, 0, 0, 0⟩ by rw [hN6]; unfold BoxS; show (wr.heap.push _)[wr.heap.size]? = _; simp)
                  have BB := hid (show Below N6 wr (wr.alloc (.cells (stC ⟨1, f1, f2, f3, 0, 0, 0, 0⟩) 23)) by rw [hN6]; exact (Below.refl _ _).alloc (Nat.le_refl _) _)
                  have HN6 := hid hN6
                  clear hLK hsh NX hN6
                  go_wp2_with fail
                  refine KS.out.mono ?_
                  rintro e w7 ⟨rfl, b7⟩
                  rw [← HN6.out]
                  have hl6 := YB.out.lt
                  have Y7 := hid (YB.out.keep (b7.block _ hl6))
                  have BB7 := hid (BB.out.trans (b7.mono (Nat.le_of_lt hl6)))
                  have hn6 := HN6.out
                  have X7 := hid (XK.out.keep (BB7.out.block _ (by omega)))
                  have BK7 := hid (BK.out.trans (BB7.out.mono (by omega)))
                  have HX7 := hid (HX.out.trans (BB7.out.mono (by omega)))
                  clear KS b7 y1 y2 y3 y4 hn6 hl6
                  obtain ⟨x0, x1, x2, x3, x4, x5, x6, x7⟩ := Y7.out.cell
                  simp only at x0 x1 x2 x3 x4 x5 x6 x7
                  obtain ⟨z0, z1, z2, z3, z4, z5, z6, z7⟩ := BoxS.cell X7.out
                  simp only at z0 z1 z2 z3 z4 z5 z6 z7
                  have q0 := frozen_block X7.out 0
                  have q1 := frozen_block X7.out 1
                  have q2 := frozen_block X7.out 2
                  have q3 := frozen_block X7.out 3
                  have q4 := frozen_block X7.out 4
                  have q5 := frozen_block X7.out 5
                  have q6 := frozen_block X7.out 6
                  have q7 := frozen_block X7.out 7
                  by_cases hlk : LK = l
                  · have hf := found (l := l) (k := 1) (by omega) (by omega) (by rw [← HLK.out]; exact hlk)
                    have HF2 := hid hf
                    have hbe : (LK == l) = true := by rw [hlk]; simp
                    clear hf hlk
                    go_wp2_with fail
                    obtain ⟨W9, hW9⟩ : ∃ W9, W9 = ((((((((w7.setCell ⟨w.heap.size, 0, none⟩ (.int .i64 1)).setCell ⟨w.heap.size, 1, none⟩ (.int .i64 f1)).setCell ⟨w.heap.size, 2, none⟩ (.int .i64 f2)).setCell ⟨w.heap.size, 3, none⟩ (.int .i64 f3)).setCell ⟨w.heap.size, 4, none⟩ (.int .i64 0)).setCell ⟨w.heap.size, 5, none⟩ (.int .i64 0)).setCell ⟨w.heap.size, 6, none⟩ (.int .i64 0)).setCell ⟨w.heap.size, 7, none⟩ (.int .i64 0)) := ⟨_, rfl⟩
                    rw [← hW9]
                    have h9 : W9 = putP w7 w.heap.size ⟨1, f1, f2, f3, 0, 0, 0, 0⟩ := hW9
                    have X9 : BoxS W9 w.heap.size ⟨1, f1, f2, f3, 0, 0, 0, 0⟩ := by rw [h9]; exact putP_box X7.out _
                    have B9 : Below w.heap.size w W9 := by rw [h9]; exact putP_below BK7.out (Nat.le_refl _) _
                    clear hW9 h9
                    refine bodyPost_P2 rfl w.heap.size ⟨1, f1, f2, f3, 0, 0, 0, 0⟩ rfl X9 rfl ⟨?_, B9⟩
                    rw [HRS.out, HRE.out, HF2.out.1, HF2.out.2, ← LS.out 1]
                    rfl
                  · have hbe : (LK == l) = false := by simpa using hlk
                    have HNE := hid (show lnL l 1 ≠ l by rw [← HLK.out]; exact hlk)
                    clear hlk
                    go_wp2_with fail
                    refine ⟨⟨2, by omega, by omega, by go_num, HX7, hid fun t h1 h2 => ?_⟩, ?_⟩
                    · by_cases e : t = 1
                      · rw [e]; exact HNE.out
                      · exact HL.out t h1 (by omega)
                    · simp [intOf] <;> omega
                · have KS := hid (rshow_c (lineS f1 f2 f3 f4 2) (HIN.out 2) (wr.alloc (.cells (stC ⟨2, f1, f2, f3, 0, 0, 0, 0⟩) 23)))
                  have hsh := line_show f1 f2 f3 f4 2 (by omega) (by omega)
                  rw [hsh.1, hsh.2] at KS
                  obtain ⟨LK, hLK⟩ : ∃ LK, LK = lineL f1 f2 f3 f4 2 := ⟨_, rfl⟩
                  rw [← hLK] at KS
                  have HLK := hid (show LK = lnL l 2 by rw [hLK]; unfold lineL; rw [LS.out 2]; rfl)
                  obtain ⟨N6, hN6⟩ : ∃ N6, N6 = wr.heap.size := ⟨_, rfl⟩
                  have YB := hid (show BoxS (wr.alloc (.cells (stC ⟨2, f1, f2, f3, 0, 0, 0, 0⟩) 23)) N6 ⟨2, f1, f2, f3, 0, 0, 0, 0⟩ by rw [hN6]; unfold BoxS; show (wr.heap.push _)[wr.heap.size]? = _; simp)
                  have BB := hid (show Below N6 wr (wr.alloc (.cells (stC ⟨2, f1, f2, f3, 0, 0, 0, 0⟩) 23)) by rw [hN6]; exact (Below.refl _ _).alloc (Nat.le_refl _) _)
                  have HN6 := hid hN6
                  clear hLK hsh NX hN6
                  go_wp2_with fail
                  refine KS.out.mono ?_
                  rintro e w7 ⟨rfl, b7⟩
                  rw [← HN6.out]
                  have hl6 := YB.out.lt
                  have Y7 := hid (YB.out.keep (b7.block _ hl6))
                  have BB7 := hid (BB.out.trans (b7.mono (Nat.le_of_lt hl6)))
                  have hn6 := HN6.out
                  have X7 := hid (XK.out.keep (BB7.out.block _ (by omega)))
                  have BK7 := hid (BK.out.trans (BB7.out.mono (by omega)))
                  have HX7 := hid (HX.out.trans (BB7.out.mono (by omega)))
                  clear KS b7 y1 y2 y3 y4 hn6 hl6
                  obtain ⟨x0, x1, x2, x3, x4, x5, x6, x7⟩ := Y7.out.cell
                  simp only at x0 x1 x2 x3 x4 x5 x6 x7
                  obtain ⟨z0, z1, z2, z3, z4, z5, z6, z7⟩ := BoxS.cell X7.out
                  simp only at z0 z1 z2 z3 z4 z5 z6 z7
                  have q0 := frozen_block X7.out 0
                  have q1 := frozen_block X7.out 1
                  have q2 := frozen_block X7.out 2
                  have q3 := frozen_block X7.out 3
                  have q4 := frozen_block X7.out 4
                  have q5 := frozen_block X7.out 5
                  have q6 := frozen_block X7.out 6
                  have q7 := frozen_block X7.out 7
                  by_cases hlk : LK = l
                  · have hf := found (l := l) (k := 2) (by omega) (by omega) (by rw [← HLK.out]; exact hlk)
                    have HF2 := hid hf
                    have hbe : (LK == l) = true := by rw [hlk]; simp
                    clear hf hlk
                    go_wp2_with fail
                    obtain ⟨W9, hW9⟩ : ∃ W9, W9 = ((((((((w7.setCell ⟨w.heap.size, 0, none⟩ (.int .i64 2)).setCell ⟨w.heap.size, 1, none⟩ (.int .i64 f1)).setCell ⟨w.heap.size, 2, none⟩ (.int .i64 f2)).setCell ⟨w.heap.size, 3, none⟩ (.int .i64 f3)).setCell ⟨w.heap.size, 4, none⟩ (.int .i64 0)).setCell ⟨w.heap.size, 5, none⟩ (.int .i64 0)).setCell ⟨w.heap.size, 6, none⟩ (.int .i64 0)).setCell ⟨w.heap.size, 7, none⟩ (.int .i64 0)) := ⟨_, rfl⟩
                    rw [← hW9]
                    have h9 : W9 = putP w7 w.heap.size ⟨2, f1, f2, f3, 0, 0, 0, 0⟩ := hW9
                    have X9 : BoxS W9 w.heap.size ⟨2, f1, f2, f3, 0, 0, 0, 0⟩ := by rw [h9]; exact putP_box X7.out _
                    have B9 : Below w.heap.size w W9 := by rw [h9]; exact putP_below BK7.out (Nat.le_refl _) _
                    clear hW9 h9
                    refine bodyPost_P2 rfl w.heap.size ⟨2, f1, f2, f3, 0, 0, 0, 0⟩ rfl X9 rfl ⟨?_, B9⟩
                    rw [HRS.out, HRE.out, HF2.out.1, HF2.out.2, ← LS.out 2]
                    rfl
                  · have hbe : (LK == l) = false := by simpa using hlk
                    have HNE := hid (show lnL l 2 ≠ l by rw [← HLK.out]; exact hlk)
                    clear hlk
                    go_wp2_with fail
                    refine ⟨⟨3, by omega, by omega, by go_num, HX7, hid fun t h1 h2 => ?_⟩, ?_⟩
                    · by_cases e : t = 2
                      · rw [e]; exact HNE.out
                      · exact HL.out t h1 (by omega)
                    · simp [intOf] <;> omega
                · have KS := hid (rshow_c (lineS f1 f2 f3 f4 3) (HIN.out 3) (wr.alloc (.cells (stC ⟨3, f1, f2, f3, f4, 0, 0, 0⟩) 23)))
                  have hsh := line_show f1 f2 f3 f4 3 (by omega) (by omega)
                  rw [hsh.1, hsh.2] at KS
                  obtain ⟨LK, hLK⟩ : ∃ LK, LK = lineL f1 f2 f3 f4 3 := ⟨_, rfl⟩
                  rw [← hLK] at KS
                  have HLK := hid (show LK = lnL l 3 by rw [hLK]; unfold lineL; rw [LS.out 3]; rfl)
                  obtain ⟨N6, hN6⟩ : ∃ N6, N6 = wr.heap.size := ⟨_, rfl⟩
                  have YB := hid (show BoxS (wr.alloc (.cells (stC ⟨3, f1, f2, f3, f4, 0, 0, 0⟩) 23)) N6 ⟨3, f1, f2, f3, f4, 0, 0, 0⟩ by rw [hN6]; unfold BoxS; show (wr.heap.push _)[wr.heap.size]? = _; simp)
                  have BB := hid (show Below N6 wr (wr.alloc (.cells (stC ⟨3, f1, f2, f3, f4, 0, 0, 0⟩) 23)) by rw [hN6]; exact (Below.refl _ _).alloc (Nat.le_refl _) _)
                  have HN6 := hid hN6
                  clear hLK hsh NX hN6
                  go_wp2_with fail
                  refine KS.out.mono ?_
                  rintro e w7 ⟨rfl, b7⟩
                  rw [← HN6.out]
                  have hl6 := YB.out.lt
                  have Y7 := hid (YB.out.keep (b7.block _ hl6))
                  have BB7 := hid (BB.out.trans (b7.mono (Nat.le_of_lt hl6)))
                  have hn6 := HN6.out
                  have X7 := hid (XK.out.keep (BB7.out.block _ (by omega)))
                  have BK7 := hid (BK.out.trans (BB7.out.mono (by omega)))
                  have HX7 := hid (HX.out.trans (BB7.out.mono (by omega)))
                  clear KS b7 y1 y2 y3 y4 hn6 hl6
                  obtain ⟨x0, x1, x2, x3, x4, x5, x6, x7⟩ := Y7.out.cell
                  simp only at x0 x1 x2 x3 x4 x5 x6 x7
                  obtain ⟨z0, z1, z2, z3, z4, z5, z6, z7⟩ := BoxS.cell X7.out
                  simp only at z0 z1 z2 z3 z4 z5 z6 z7
                  have q0 := frozen_block X7.out 0
                  have q1 := frozen_block X7.out 1
                  have q2 := frozen_block X7.out 2
                  have q3 := frozen_block X7.out 3
                  have q4 := frozen_block X7.out 4
                  have q5 := frozen_block X7.out 5
                  have q6 := frozen_block X7.out 6
                  have q7 := frozen_block X7.out 7
                  by_cases hlk : LK = l
                  · have hf := found (l := l) (k := 3) (by omega) (by omega) (by rw [← HLK.out]; exact hlk)
                    have HF2 := hid hf
                    have hbe : (LK == l) = true := by rw [hlk]; simp
                    clear hf hlk
                    go_wp2_with fail
                    obtain ⟨W9, hW9⟩ : ∃ W9, W9 = ((((((((w7.setCell ⟨w.heap.size, 0, none⟩ (.int .i64 3)).setCell ⟨w.heap.size, 1, none⟩ (.int .i64 f1)).setCell ⟨w.heap.size, 2, none⟩ (.int .i64 f2)).setCell ⟨w.heap.size, 3, none⟩ (.int .i64 f3)).setCell ⟨w.heap.size, 4, none⟩ (.int .i64 f4)).setCell ⟨w.heap.size, 5, none⟩ (.int .i64 0)).setCell ⟨w.heap.size, 6, none⟩ (.int .i64 0)).setCell ⟨w.heap.size, 7, none⟩ (.int .i64 0)) := ⟨_, rfl⟩
                    rw [← hW9]
                    have h9 : W9 = putP w7 w.heap.size ⟨3, f1, f2, f3, f4, 0, 0, 0⟩ := hW9
                    have X9 : BoxS W9 w.heap.size ⟨3, f1, f2, f3, f4, 0, 0, 0⟩ := by rw [h9]; exact putP_box X7.out _
                    have B9 : Below w.heap.size w W9 := by rw [h9]; exact putP_below BK7.out (Nat.le_refl _) _
                    clear hW9 h9
                    refine bodyPost_P2 rfl w.heap.size ⟨3, f1, f2, f3, f4, 0, 0, 0⟩ rfl X9 rfl ⟨?_, B9⟩
                    rw [HRS.out, HRE.out, HF2.out.1, HF2.out.2, ← LS.out 3]
                    rfl
                  · have hbe : (LK == l) = false := by simpa using hlk
                    have HNE := hid (show lnL l 3 ≠ l by rw [← HLK.out]; exact hlk)
                    clear hlk
                    go_wp2_with fail
                    refine ⟨⟨4, by omega, by omega, by go_num, HX7, hid fun t h1 h2 => ?_⟩, ?_⟩
                    · by_cases e : t = 3
                      · rw [e]; exact HNE.out
                      · exact HL.out t h1 (by omega)
                    · simp [intOf] <;> omega
                · have KS := hid (rshow_c (lineS f1 f2 f3 f4 4) (HIN.out 4) (wr.alloc (.cells (stC ⟨4, f1, f2, 0, 0, f3, 0, 0⟩) 23)))
                  have hsh := line_show f1 f2 f3 f4 4 (by omega) (by omega)
                  rw [hsh.1, hsh.2] at KS
                  obtain ⟨LK, hLK⟩ : ∃ LK, LK = lineL f1 f2 f3 f4 4 := ⟨_, rfl⟩
                  rw [← hLK] at KS
                  have HLK := hid (show LK = lnL l 4 by rw [hLK]; unfold lineL; rw [LS.out 4]; rfl)
                  obtain ⟨N6, hN6⟩ : ∃ N6, N6 = wr.heap.size := ⟨_, rfl⟩
                  have YB := hid (show BoxS (wr.alloc (.cells (stC ⟨4, f1, f2, 0, 0, f3, 0, 0⟩) 23)) N6 ⟨4, f1, f2, 0, 0, f3, 0, 0⟩ by rw [hN6]; unfold BoxS; show (wr.heap.push _)[wr.heap.size]? = _; simp)
                  have BB := hid (show Below N6 wr (wr.alloc (.cells (stC ⟨4, f1, f2, 0, 0, f3, 0, 0⟩) 23)) by rw [hN6]; exact (Below.refl _ _).alloc (Nat.le_refl _) _)
                  have HN6 := hid hN6
                  clear hLK hsh NX hN6
                  go_wp2_with fail
                  refine KS.out.mono ?_
                  rintro e w7 ⟨rfl, b7⟩
                  rw [← HN6.out]
                  have hl6 := YB.out.lt
                  have Y7 := hid (YB.out.keep (b7.block _ hl6))
                  have BB7 := hid (BB.out.trans (b7.mono (Nat.le_of_lt hl6)))
                  have hn6 := HN6.out
                  have X7 := hid (XK.out.keep (BB7.out.block _ (by omega)))
                  have BK7 := hid (BK.out.trans (BB7.out.mono (by omega)))
                  have HX7 := hid (HX.out.trans (BB7.out.mono (by omega)))
                  clear KS b7 y1 y2 y3 y4 hn6 hl6
                  obtain ⟨x0, x1, x2, x3, x4, x5, x6, x7⟩ := Y7.out.cell
                  simp only at x0 x1 x2 x3 x4 x5 x6 x7
                  obtain ⟨z0, z1, z2, z3, z4, z5, z6, z7⟩ := BoxS.cell X7.out
                  simp only at z0 z1 z2 z3 z4 z5 z6 z7
                  have q0 := frozen_block X7.out 0
                  have q1 := frozen_block X7.out 1
                  have q2 := frozen_block X7.out 2
                  have q3 := frozen_block X7.out 3
                  have q4 := frozen_block X7.out 4
                  have q5 := frozen_block X7.out 5
                  have q6 := frozen_block X7.out 6
                  have q7 := frozen_block X7.out 7
                  by_cases hlk : LK = l
                  · have hf := found (l := l) (k := 4) (by omega) (by omega) (by rw [← HLK.out]; exact hlk)
                    have HF2 := hid hf
                    have hbe : (LK == l) = true := by rw [hlk]; simp
                    clear hf hlk
                    go_wp2_with fail
                    obtain ⟨W9, hW9⟩ : ∃ W9, W9 = ((((((((w7.setCell ⟨w.heap.size, 0, none⟩ (.int .i64 4)).setCell ⟨w.heap.size, 1, none⟩ (.int .i64 f1)).setCell ⟨w.heap.size, 2, none⟩ (.int .i64 f2)).setCell ⟨w.heap.size, 3, none⟩ (.int .i64 0)).setCell ⟨w.heap.size, 4, none⟩ (.int .i64 0)).setCell ⟨w.heap.size, 5, none⟩ (.int .i64 f3)).setCell ⟨w.heap.size, 6, none⟩ (.int .i64 0)).setCell ⟨w.heap.size, 7, none⟩ (.int .i64 0)) := ⟨_, rfl⟩
                    rw [← hW9]
                    have h9 : W9 = putP w7 w.heap.size ⟨4, f1, f2, 0, 0, f3, 0, 0⟩ := hW9
                    have X9 : BoxS W9 w.heap.size ⟨4, f1, f2, 0, 0, f3, 0, 0⟩ := by rw [h9]; exact putP_box X7.out _
                    have B9 : Below w.heap.size w W9 := by rw [h9]; exact putP_below BK7.out (Nat.le_refl _) _
                    clear hW9 h9
                    refine bodyPost_P2 rfl w.heap.size ⟨4, f1, f2, 0, 0, f3, 0, 0⟩ rfl X9 rfl ⟨?_, B9⟩
                    rw [HRS.out, HRE.out, HF2.out.1, HF2.out.2, ← LS.out 4]
                    rfl
                  · have hbe : (LK == l) = false := by simpa using hlk
                    have HNE := hid (show lnL l 4 ≠ l by rw [← HLK.out]; exact hlk)
                    clear hlk
                    go_wp2_with fail
                    refine ⟨⟨5, by omega, by omega, by go_num, HX7, hid fun t h1 h2 => ?_⟩, ?_⟩
                    · by_cases e : t = 4
                      · rw [e]; exact HNE.out
                      · exact HL.out t h1 (by omega)
                    · simp [intOf] <;> omega
                · have KS := hid (rshow_c (lineS f1 f2 f3 f4 5) (HIN.out 5) (wr.alloc (.cells (stC ⟨5, f1, f2, 0, 0, f3, 0, 0⟩) 23)))
                  have hsh := line_show f1 f2 f3 f4 5 (by omega) (by omega)
                  rw [hsh.1, hsh.2] at KS
                  obtain ⟨LK, hLK⟩ : ∃ LK, LK = lineL f1 f2 f3 f4 5 := ⟨_, rfl⟩
                  rw [← hLK] at KS
                  have HLK := hid (show LK = lnL l 5 by rw [hLK]; unfold lineL; rw [LS.out 5]; rfl)
                  obtain ⟨N6, hN6⟩ : ∃ N6, N6 = wr.heap.size := ⟨_, rfl⟩
                  have YB := hid (show BoxS (wr.alloc (.cells (stC ⟨5, f1, f2, 0, 0, f3, 0, 0⟩) 23)) N6 ⟨5, f1, f2, 0, 0, f3, 0, 0⟩ by rw [hN6]; unfold BoxS; show (wr.heap.push _)[wr.heap.size]? = _; simp)
                  have BB := hid (show Below N6 wr (wr.alloc (.cells (stC ⟨5, f1, f2, 0, 0, f3, 0, 0⟩) 23)) by rw [hN6]; exact (Below.refl _ _).alloc (Nat.le_refl _) _)
                  have HN6 := hid hN6
                  clear hLK hsh NX hN6
                  go_wp2_with fail
                  refine KS.out.mono ?_
                  rintro e w7 ⟨rfl, b7⟩
                  rw [← HN6.out]
                  have hl6 := YB.out.lt
                  have Y7 := hid (YB.out.keep (b7.block _ hl6))
                  have BB7 := hid (BB.out.trans (b7.mono (Nat.le_of_lt hl6)))
                  have hn6 := HN6.out
                  have X7 := hid (XK.out.keep (BB7.out.block _ (by omega)))
                  have BK7 := hid (BK.out.trans (BB7.out.mono (by omega)))
                  have HX7 := hid (HX.out.trans (BB7.out.mono (by omega)))
                  clear KS b7 y1 y2 y3 y4 hn6 hl6
                  obtain ⟨x0, x1, x2, x3, x4, x5, x6, x7⟩ := Y7.out.cell
                  simp only at x0 x1 x2 x3 x4 x5 x6 x7
                  obtain ⟨z0, z1, z2, z3, z4, z5, z6, z7⟩ := BoxS.cell X7.out
                  simp only at z0 z1 z2 z3 z4 z5 z6 z7
                  have q0 := frozen_block X7.out 0
                  have q1 := frozen_block X7.out 1
                  have q2 := frozen_block X7.out 2
                  have q3 := frozen_block X7.out 3
                  have q4 := frozen_block X7.out 4
                  have q5 := frozen_block X7.out 5
                  have q6 := frozen_block X7.out 6
                  have q7 := frozen_block X7.out 7
                  by_cases hlk : LK = l
                  · have hf := found (l := l) (k := 5) (by omega) (by omega) (by rw [← HLK.out]; exact hlk)
                    have HF2 := hid hf
                    have hbe : (LK == l) = true := by rw [hlk]; simp
                    clear hf hlk
                    go_wp2_with fail
                    obtain ⟨W9, hW9⟩ : ∃ W9, W9 = ((((((((w7.setCell ⟨w.heap.size, 0, none⟩ (.int .i64 5)).setCell ⟨w.heap.size, 1, none⟩ (.int .i64 f1)).setCell ⟨w.heap.size, 2, none⟩ (.int .i64 f2)).setCell ⟨w.heap.size, 3, none⟩ (.int .i64 0)).setCell ⟨w.heap.size, 4, none⟩ (.int .i64 0)).setCell ⟨w.heap.size, 5, none⟩ (.int .i64 f3)).setCell ⟨w.heap.size, 6, none⟩ (.int .i64 0)).setCell ⟨w.heap.size, 7, none⟩ (.int .i64 0)) := ⟨_, rfl⟩
                    rw [← hW9]
                    have h9 : W9 = putP w7 w.heap.size ⟨5, f1, f2, 0, 0, f3, 0, 0⟩ := hW9
                    have X9 : BoxS W9 w.heap.size ⟨5, f1, f2, 0, 0, f3, 0, 0⟩ := by rw [h9]; exact putP_box X7.out _
                    have B9 : Below w.heap.size w W9 := by rw [h9]; exact putP_below BK7.out (Nat.le_refl _) _
                    clear hW9 h9
                    refine bodyPost_P2 rfl w.heap.size ⟨5, f1, f2, 0, 0, f3, 0, 0⟩ rfl X9 rfl ⟨?_, B9⟩
                    rw [HRS.out, HRE.out, HF2.out.1, HF2.out.2, ← LS.out 5]
                    rfl
                  · have hbe : (LK == l) = false := by simpa using hlk
                    have HNE := hid (show lnL l 5 ≠ l by rw [← HLK.out]; exact hlk)
                    clear hlk
                    go_wp2_with fail
                    refine ⟨⟨6, by omega, by omega, by go_num, HX7, hid fun t h1 h2 => ?_⟩, ?_⟩
                    · by_cases e : t = 5
                      · rw [e]; exact HNE.out
                      · exact HL.out t h1 (by omega)
                    · simp [intOf] <;> omega
                · have KS := hid (rshow_c (lineS f1 f2 f3 f4 6) (HIN.out 6) (wr.alloc (.cells (stC ⟨6, f1, f2, f3, 0, 0, 0, 0⟩) 23)))
                  have hsh := line_show f1 f2 f3 f4 6 (by omega) (by omega)
                  rw [hsh.1, hsh.2] at KS
                  obtain ⟨LK, hLK⟩ : ∃ LK, LK = lineL f1 f2 f3 f4 6 := ⟨_, rfl⟩
                  rw [← hLK] at KS
                  have HLK := hid (show LK = lnL l 6 by rw [hLK]; unfold lineL; rw [LS.out 6]; rfl)
                  obtain ⟨N6, hN6⟩ : ∃ N6, N6 = wr.heap.size := ⟨_, rfl⟩
                  have YB := hid (show BoxS (wr.alloc (.cells (stC ⟨6, f1, f2, f3, 0, 0, 0, 0⟩) 23)) N6 ⟨6, f1, f2, f3, 0, 0, 0, 0⟩ by rw [hN6]; unfold BoxS; show (wr.heap.push _)[wr.heap.size]? = _; simp)
                  have BB := hid (show Below N6 wr (wr.alloc (.cells (stC ⟨6, f1, f2, f3, 0, 0, 0, 0⟩) 23)) by rw [hN6]; exact (Below.refl _ _).alloc (Nat.le_refl _) _)
                  have HN6 := hid hN6
                  clear hLK hsh NX hN6
                  go_wp2_with fail
                  refine KS.out.mono ?_
                  rintro e w7 ⟨rfl, b7⟩
                  rw [← HN6.out]
                  have hl6 := YB.out.lt
                  have Y7 := hid (YB.out.keep (b7.block _ hl6))
                  have BB7 := hid (BB.out.trans (b7.mono (Nat.le_of_lt hl6)))
                  have hn6 := HN6.out
                  have X7 := hid (XK.out.keep (BB7.out.block _ (by omega)))
                  have BK7 := hid (BK.out.trans (BB7.out.mono (by omega)))
                  have HX7 := hid (HX.out.trans (BB7.out.mono (by omega)))
                  clear KS b7 y1 y2 y3 y4 hn6 hl6
                  obtain ⟨x0, x1, x2, x3, x4, x5, x6, x7⟩ := Y7.out.cell
                  simp only at x0 x1 x2 x3 x4 x5 x6 x7
                  obtain ⟨z0, z1, z2, z3, z4, z5, z6, z7⟩ := BoxS.cell X7.out
                  simp only at z0 z1 z2 z3 z4 z5 z6 z7
                  have q0 := frozen_block X7.out 0
                  have q1 := frozen_block X7.out 1
                  have q2 := frozen_block X7.out 2
                  have q3 := frozen_block X7.out 3
                  have q4 := frozen_block X7.out 4
                  have q5 := frozen_block X7.out 5
                  have q6 := frozen_block X7.out 6
                  have q7 := frozen_block X7.out 7
                  by_cases hlk : LK = l
                  · have hf := found (l := l) (k := 6) (by omega) (by omega) (by rw [← HLK.out]; exact hlk)
                    have HF2 := hid hf
                    have hbe : (LK == l) = true := by rw [hlk]; simp
                    clear hf hlk
                    go_wp2_with fail
                    obtain ⟨W9, hW9⟩ : ∃ W9, W9 = ((((((((w7.setCell ⟨w.heap.size, 0, none⟩ (.int .i64 6)).setCell ⟨w.heap.size, 1, none⟩ (.int .i64 f1)).setCell ⟨w.heap.size, 2, none⟩ (.int .i64 f2)).setCell ⟨w.heap.size, 3, none⟩ (.int .i64 f3)).setCell ⟨w.heap.size, 4, none⟩ (.int .i64 0)).setCell ⟨w.heap.size, 5, none⟩ (.int .i64 0)).setCell ⟨w.heap.size, 6, none⟩ (.int .i64 0)).setCell ⟨w.heap.size, 7, none⟩ (.int .i64 0)) := ⟨_, rfl⟩
                    rw [← hW9]
                    have h9 : W9 = putP w7 w.heap.size ⟨6, f1, f2, f3, 0, 0, 0, 0⟩ := hW9
                    have X9 : BoxS W9 w.heap.size ⟨6, f1, f2, f3, 0, 0, 0, 0⟩ := by rw [h9]; exact putP_box X7.out _
                    have B9 : Below w.heap.size w W9 := by rw [h9]; exact putP_below BK7.out (Nat.le_refl _) _
                    clear hW9 h9
                    refine bodyPost_P2 rfl w.heap.size ⟨6, f1, f2, f3, 0, 0, 0, 0⟩ rfl X9 rfl ⟨?_, B9⟩
                    rw [HRS.out, HRE.out, HF2.out.1, HF2.out.2, ← LS.out 6]
                    rfl
                  · have hbe : (LK == l) = false := by simpa using hlk
                    have HNE := hid (show lnL l 6 ≠ l by rw [← HLK.out]; exact hlk)
                    clear hlk
                    go_wp2_with fail
                    refine ⟨⟨7, by omega, by omega, by go_num, HX7, hid fun t h1 h2 => ?_⟩, ?_⟩
                    · by_cases e : t = 6
                      · rw [e]; exact HNE.out
                      · exact HL.out t h1 (by omega)
                    · simp [intOf] <;> omega
                · have KS := hid (rshow_c (lineS f1 f2 f3 f4 7) (HIN.out 7) (wr.alloc (.cells (stC ⟨7, f1, 0, f4, 0, 0, f2, f3⟩) 23)))
                  have hsh := line_show f1 f2 f3 f4 7 (by omega) (by omega)
                  rw [hsh.1, hsh.2] at KS
                  obtain ⟨LK, hLK⟩ : ∃ LK, LK = lineL f1 f2 f3 f4 7 := ⟨_, rfl⟩
                  rw [← hLK] at KS
                  have HLK := hid (show LK = lnL l 7 by rw [hLK]; unfold lineL; rw [LS.out 7]; rfl)
                  obtain ⟨N6, hN6⟩ : ∃ N6, N6 = wr.heap.size := ⟨_, rfl⟩
                  have YB := hid (show BoxS (wr.alloc (.cells (stC ⟨7, f1, 0, f4, 0, 0, f2, f3⟩) 23)) N6 ⟨7, f1, 0, f4, 0, 0, f2, f3⟩ by rw [hN6]; unfold BoxS; show (wr.heap.push _)[wr.heap.size]? = _; simp)
                  have BB := hid (show Below N6 wr (wr.alloc (.cells (stC ⟨7, f1, 0, f4, 0, 0, f2, f3⟩) 23)) by rw [hN6]; exact (Below.refl _ _).alloc (Nat.le_refl _) _)
                  have HN6 := hid hN6
                  clear hLK hsh NX hN6
                  go_wp2_with fail
                  refine KS.out.mono ?_
                  rintro e w7 ⟨rfl, b7⟩
                  rw [← HN6.out]
                  have hl6 := YB.out.lt
                  have Y7 := hid (YB.out.keep (b7.block _ hl6))
                  have BB7 := hid (BB.out.trans (b7.mono (Nat.le_of_lt hl6)))
                  have hn6 := HN6.out
                  have X7 := hid (XK.out.keep (BB7.out.block _ (by omega)))
                  have BK7 := hid (BK.out.trans (BB7.out.mono (by omega)))
                  have HX7 := hid (HX.out.trans (BB7.out.mono (by omega)))
                  clear KS b7 y1 y2 y3 y4 hn6 hl6
                  obtain ⟨x0, x1, x2, x3, x4, x5, x6, x7⟩ := Y7.out.cell
                  simp only at x0 x1 x2 x3 x4 x5 x6 x7
                  obtain ⟨z0, z1, z2, z3, z4, z5, z6, z7⟩ := BoxS.cell X7.out
                  simp only at z0 z1 z2 z3 z4 z5 z6 z7
                  have q0 := frozen_block X7.out 0
                  have q1 := frozen_block X7.out 1
                  have q2 := frozen_block X7.out 2
                  have q3 := frozen_block X7.out 3
                  have q4 := frozen_block X7.out 4
                  have q5 := frozen_block X7.out 5
                  have q6 := frozen_block X7.out 6
                  have q7 := frozen_block X7.out 7
                  by_cases hlk : LK = l
                  · have hf := found (l := l) (k := 7) (by omega) (by omega) (by rw [← HLK.out]; exact hlk)
                    have HF2 := hid hf
                    have hbe : (LK == l) = true := by rw [hlk]; simp
                    clear hf hlk
                    go_wp2_with fail
                    obtain ⟨W9, hW9⟩ : ∃ W9, W9 = ((((((((w7.setCell ⟨w.heap.size, 0, none⟩ (.int .i64 7)).setCell ⟨w.heap.size, 1, none⟩ (.int .i64 f1)).setCell ⟨w.heap.size, 2, none⟩ (.int .i64 0)).setCell ⟨w.heap.size, 3, none⟩ (.int .i64 f4)).setCell ⟨w.heap.size, 4, none⟩ (.int .i64 0)).setCell ⟨w.heap.size, 5, none⟩ (.int .i64 0)).setCell ⟨w.heap.size, 6, none⟩ (.int .i64 f2)).setCell ⟨w.heap.size, 7, none⟩ (.int .i64 f3)) := ⟨_, rfl⟩
                    rw [← hW9]
                    have h9 : W9 = putP w7 w.heap.size ⟨7, f1, 0, f4, 0, 0, f2, f3⟩ := hW9
                    have X9 : BoxS W9 w.heap.size ⟨7, f1, 0, f4, 0, 0, f2, f3⟩ := by rw [h9]; exact putP_box X7.out _
                    have B9 : Below w.heap.size w W9 := by rw [h9]; exact putP_below BK7.out (Nat.le_refl _) _
                    clear hW9 h9
                    refine bodyPost_P2 rfl w.heap.size ⟨7, f1, 0, f4, 0, 0, f2, f3⟩ rfl X9 rfl ⟨?_, B9⟩
                    rw [HRS.out, HRE.out, HF2.out.1, HF2.out.2, ← LS.out 7]
                    rfl
                  · have hbe : (LK == l) = false := by simpa using hlk
                    have HNE := hid (show lnL l 7 ≠ l by rw [← HLK.out]; exact hlk)
                    clear hlk
                    go_wp2_with fail
                    refine ⟨⟨8, by omega, by omega, by go_num, HX7, hid fun t h1 h2 => ?_⟩, ?_⟩
                    · by_cases e : t = 7
                      · rw [e]; exact HNE.out
                      · exact HL.out t h1 (by omega)
                    · simp [intOf] <;> omega
                · have KS := hid (rshow_c (lineS f1 f2 f3 f4 8) (HIN.out 8) (wr.alloc (.cells (stC ⟨8, f1, 0, 0, 0, 0, f2, f3⟩) 23)))
                  have hsh := line_show f1 f2 f3 f4 8 (by omega) (by omega)
                  rw [hsh.1, hsh.2] at KS
                  obtain ⟨LK, hLK⟩ : ∃ LK, LK = lineL f1 f2 f3 f4 8 := ⟨_, rfl⟩
                  rw [← hLK] at KS
                  have HLK := hid (show LK = lnL l 8 by rw [hLK]; unfold lineL; rw [LS.out 8]; rfl)
                  obtain ⟨N6, hN6⟩ : ∃ N6, N6 = wr.heap.size := ⟨_, rfl⟩
                  have YB := hid (show BoxS (wr.alloc (.cells (stC ⟨8, f1, 0, 0, 0, 0, f2, f3⟩) 23)) N6 ⟨8, f1, 0, 0, 0, 0, f2, f3⟩ by rw [hN6]; unfold BoxS; show (wr.heap.push _)[wr.heap.size]? = _; simp)
                  have BB := hid (show Below N6 wr (wr.alloc (.cells (stC ⟨8, f1, 0, 0, 0, 0, f2, f3⟩) 23)) by rw [hN6]; exact (Below.refl _ _).alloc (Nat.le_refl _) _)
                  have HN6 := hid hN6
                  clear hLK hsh NX hN6
                  go_wp2_with fail
                  refine KS.out.mono ?_
                  rintro e w7 ⟨rfl, b7⟩
                  rw [← HN6.out]
                  have hl6 := YB.out.lt
                  have Y7 := hid (YB.out.keep (b7.block _ hl6))
                  have BB7 := hid (BB.out.trans (b7.mono (Nat.le_of_lt hl6)))
                  have hn6 := HN6.out
                  have X7 := hid (XK.out.keep (BB7.out.block _ (by omega)))
                  have BK7 := hid (BK.out.trans (BB7.out.mono (by omega)))
                  have HX7 := hid (HX.out.trans (BB7.out.mono (by omega)))
                  clear KS b7 y1 y2 y3 y4 hn6 hl6
                  obtain ⟨x0, x1, x2, x3, x4, x5, x6, x7⟩ := Y7.out.cell
                  simp only at x0 x1 x2 x3 x4 x5 x6 x7
                  obtain ⟨z0, z1, z2, z3, z4, z5, z6, z7⟩ := BoxS.cell X7.out
                  simp only at z0 z1 z2 z3 z4 z5 z6 z7
                  have q0 := frozen_block X7.out 0
                  have q1 := frozen_block X7.out 1
                  have q2 := frozen_block X7.out 2
                  have q3 := frozen_block X7.out 3
                  have q4 := frozen_block X7.out 4
                  have q5 := frozen_block X7.out 5
                  have q6 := frozen_block X7.out 6
                  have q7 := frozen_block X7.out 7
                  by_cases hlk : LK = l
                  · have hf := found (l := l) (k := 8) (by omega) (by omega) (by rw [← HLK.out]; exact hlk)
                    have HF2 := hid hf
                    have hbe : (LK == l) = true := by rw [hlk]; simp
                    clear hf hlk
                    go_wp2_with fail
                    obtain ⟨W9, hW9⟩ : ∃ W9, W9 = ((((((((w7.setCell ⟨w.heap.size, 0, none⟩ (.int .i64 8)).setCell ⟨w.heap.size, 1, none⟩ (.int .i64 f1)).setCell ⟨w.heap.size, 2, none⟩ (.int .i64 0)).setCell ⟨w.heap.size, 3, none⟩ (.int .i64 0)).setCell ⟨w.heap.size, 4, none⟩ (.int .i64 0)).setCell ⟨w.heap.size, 5, none⟩ (.int .i64 0)).setCell ⟨w.heap.size, 6, none⟩ (.int .i64 f2)).setCell ⟨w.heap.size, 7, none⟩ (.int .i64 f3)) := ⟨_, rfl⟩
                    rw [← hW9]
                    have h9 : W9 = putP w7 w.heap.size ⟨8, f1, 0, 0, 0, 0, f2, f3⟩ := hW9
                    have X9 : BoxS W9 w.heap.size ⟨8, f1, 0, 0, 0, 0, f2, f3⟩ := by rw [h9]; exact putP_box X7.out _
                    have B9 : Below w.heap.size w W9 := by rw [h9]; exact putP_below BK7.out (Nat.le_refl _) _
                    clear hW9 h9
                    refine bodyPost_P2 rfl w.heap.size ⟨8, f1, 0, 0, 0, 0, f2, f3⟩ rfl X9 rfl ⟨?_, B9⟩
                    rw [HRS.out, HRE.out, HF2.out.1, HF2.out.2, ← LS.out 8]
                    rfl
                  · have hbe : (LK == l) = false := by simpa using hlk
                    have HNE := hid (show lnL l 8 ≠ l by rw [← HLK.out]; exact hlk)
                    clear hlk
                    go_wp2_with fail
                    refine ⟨⟨9, by omega, by omega, by go_num, HX7, hid fun t h1 h2 => ?_⟩, ?_⟩
                    · by_cases e : t = 8
                      · rw [e]; exact HNE.out
                      · exact HL.out t h1 (by omega)
                    · simp [intOf] <;> omega
                · have KS := hid (rshow_c (lineS f1 f2 f3 f4 9) (HIN.out 9) (wr.alloc (.cells (stC ⟨9, 0, 0, 0, 0, 0, 0, 0⟩) 23)))
                  have hsh := line_show f1 f2 f3 f4 9 (by omega) (by omega)
                  rw [hsh.1, hsh.2] at KS
                  obtain ⟨LK, hLK⟩ : ∃ LK, LK = lineL f1 f2 f3 f4 9 := ⟨_, rfl⟩
                  rw [← hLK] at KS
                  have HLK := hid (show LK = lnL l 9 by rw [hLK]; unfold lineL; rw [LS.out 9]; rfl)
                  obtain ⟨N6, hN6⟩ : ∃ N6, N6 = wr.heap.size := ⟨_, rfl⟩
                  have YB := hid (show BoxS (wr.alloc (.cells (stC ⟨9, 0, 0, 0, 0, 0, 0, 0⟩) 23)) N6 ⟨9, 0, 0, 0, 0, 0, 0, 0⟩ by rw [hN6]; unfold BoxS; show (wr.heap.push _)[wr.heap.size]? = _; simp)
                  have BB := hid (show Below N6 wr (wr.alloc (.cells (stC ⟨9, 0, 0, 0, 0, 0, 0, 0⟩) 23)) by rw [hN6]; exact (Below.refl _ _).alloc (Nat.le_refl _) _)
                  have HN6 := hid hN6
                  clear hLK hsh NX hN6
                  go_wp2_with fail
                  refine KS.out.mono ?_
                  rintro e w7 ⟨rfl, b7⟩
                  rw [← HN6.out]
                  have hl6 := YB.out.lt
                  have Y7 := hid (YB.out.keep (b7.block _ hl6))
                  have BB7 := hid (BB.out.trans (b7.mono (Nat.le_of_lt hl6)))
                  have hn6 := HN6.out
                  have X7 := hid (XK.out.keep (BB7.out.block _ (by omega)))
                  have BK7 := hid (BK.out.trans (BB7.out.mono (by omega)))
                  have HX7 := hid (HX.out.trans (BB7.out.mono (by omega)))
                  clear KS b7 y1 y2 y3 y4 hn6 hl6
                  obtain ⟨x0, x1, x2, x3, x4, x5, x6, x7⟩ := Y7.out.cell
                  simp only at x0 x1 x2 x3 x4 x5 x6 x7
                  obtain ⟨z0, z1, z2, z3, z4, z5, z6, z7⟩ := BoxS.cell X7.out
                  simp only at z0 z1 z2 z3 z4 z5 z6 z7
                  have q0 := frozen_block X7.out 0
                  have q1 := frozen_block X7.out 1
                  have q2 := frozen_block X7.out 2
                  have q3 := frozen_block X7.out 3
                  have q4 := frozen_block X7.out 4
                  have q5 := frozen_block X7.out 5
                  have q6 := frozen_block X7.out 6
                  have q7 := frozen_block X7.out 7
                  by_cases hlk : LK = l
                  · have hf := found (l := l) (k := 9) (by omega) (by omega) (by rw [← HLK.out]; exact hlk)
                    have HF2 := hid hf
                    have hbe : (LK == l) = true := by rw [hlk]; simp
                    clear hf hlk
                    go_wp2_with fail
                    obtain ⟨W9, hW9⟩ : ∃ W9, W9 = ((((((((w7.setCell ⟨w.heap.size, 0, none⟩ (.int .i64 9)).setCell ⟨w.heap.size, 1, none⟩ (.int .i64 0)).setCell ⟨w.heap.size, 2, none⟩ (.int .i64 0)).setCell ⟨w.heap.size, 3, none⟩ (.int .i64 0)).setCell ⟨w.heap.size, 4, none⟩ (.int .i64 0)).setCell ⟨w.heap.size, 5, none⟩ (.int .i64 0)).setCell ⟨w.heap.size, 6, none⟩ (.int .i64 0)).setCell ⟨w.heap.size, 7, none⟩ (.int .i64 0)) := ⟨_, rfl⟩
                    rw [← hW9]
                    have h9 : W9 = putP w7 w.heap.size ⟨9, 0, 0, 0, 0, 0, 0, 0⟩ := hW9
                    have X9 : BoxS W9 w.heap.size ⟨9, 0, 0, 0, 0, 0, 0, 0⟩ := by rw [h9]; exact putP_box X7.out _
                    have B9 : Below w.heap.size w W9 := by rw [h9]; exact putP_below BK7.out (Nat.le_refl _) _
                    clear hW9 h9
                    refine bodyPost_P2 rfl w.heap.size ⟨9, 0, 0, 0, 0, 0, 0, 0⟩ rfl X9 rfl ⟨?_, B9⟩
                    rw [HRS.out, HRE.out, HF2.out.1, HF2.out.2, ← LS.out 9]
                    rfl
                  · have hbe : (LK == l) = false := by simpa using hlk
                    have HNE := hid (show lnL l 9 ≠ l by rw [← HLK.out]; exact hlk)
                    clear hlk
                    go_wp2_with fail
                    refine ⟨⟨10, by omega, by omega, by go_num, HX7, hid fun t h1 h2 => ?_⟩, ?_⟩
                    · by_cases e : t = 9
                      · rw [e]; exact HNE.out
                      · exact HL.out t h1 (by omega)
                    · simp [intOf] <;> omega
                · have KS := hid (rshow_c (lineS f1 f2 f3 f4 10) (HIN.out 10) (wr.alloc (.cells (stC ⟨10, 0, 0, 0, 0, f1, 0, 0⟩) 23)))
                  have hsh := line_show f1 f2 f3 f4 10 (by omega) (by omega)
                  rw [hsh.1, hsh.2] at KS
                  obtain ⟨LK, hLK⟩ : ∃ LK, LK = lineL f1 f2 f3 f4 10 := ⟨_, rfl⟩
                  rw [← hLK] at KS
                  have HLK := hid (show LK = lnL l 10 by rw [hLK]; unfold lineL; rw [LS.out 10]; rfl)
                  obtain ⟨N6, hN6⟩ : ∃ N6, N6 = wr.heap.size := ⟨_, rfl⟩
                  have YB := hid (show BoxS (wr.alloc (.cells (stC ⟨10, 0, 0, 0, 0, f1, 0, 0⟩) 23)) N6 ⟨10, 0, 0, 0, 0, f1, 0, 0⟩ by rw [hN6]; unfold BoxS; show (wr.heap.push _)[wr.heap.size]? = _; simp)
                  have BB := hid (show Below N6 wr (wr.alloc (.cells (stC ⟨10, 0, 0, 0, 0, f1, 0, 0⟩) 23)) by rw [hN6]; exact (Below.refl _ _).alloc (Nat.le_refl _) _)
                  have HN6 := hid hN6
                  clear hLK hsh NX hN6
                  go_wp2_with fail
                  refine KS.out.mono ?_
                  rintro e w7 ⟨rfl, b7⟩
                  rw [← HN6.out]
                  have hl6 := YB.out.lt
                  have Y7 := hid (YB.out.keep (b7.block _ hl6))
                  have BB7 := hid (BB.out.trans (b7.mono (Nat.le_of_lt hl6)))
                  have hn6 := HN6.out
                  have X7 := hid (XK.out.keep (BB7.out.block _ (by omega)))
                  have BK7 := hid (BK.out.trans (BB7.out.mono (by omega)))
                  have HX7 := hid (HX.out.trans (BB7.out.mono (by omega)))
                  clear KS b7 y1 y2 y3 y4 hn6 hl6
                  obtain ⟨x0, x1, x2, x3, x4, x5, x6, x7⟩ := Y7.out.cell
                  simp only at x0 x1 x2 x3 x4 x5 x6 x7
                  obtain ⟨z0, z1, z2, z3, z4, z5, z6, z7⟩ := BoxS.cell X7.out
                  simp only at z0 z1 z2 z3 z4 z5 z6 z7
                  have q0 := frozen_block X7.out 0
                  have q1 := frozen_block X7.out 1
                  have q2 := frozen_block X7.out 2
                  have q3 := frozen_block X7.out 3
                  have q4 := frozen_block X7.out 4
                  have q5 := frozen_block X7.out 5
                  have q6 := frozen_block X7.out 6
                  have q7 := frozen_block X7.out 7
                  by_cases hlk : LK = l
                  · have hf := found (l := l) (k := 10) (by omega) (by omega) (by rw [← HLK.out]; exact hlk)
                    have HF2 := hid hf
                    have hbe : (LK == l) = true := by rw [hlk]; simp
                    clear hf hlk
                    go_wp2_with fail
                    obtain ⟨W9, hW9⟩ : ∃ W9, W9 = ((((((((w7.setCell ⟨w.heap.size, 0, none⟩ (.int .i64 10)).setCell ⟨w.heap.size, 1, none⟩ (.int .i64 0)).setCell ⟨w.heap.size, 2, none⟩ (.int .i64 0)).setCell ⟨w.heap.size, 3, none⟩ (.int .i64 0)).setCell ⟨w.heap.size, 4, none⟩ (.int .i64 0)).setCell ⟨w.heap.size, 5, none⟩ (.int .i64 f1)).setCell ⟨w.heap.size, 6, none⟩ (.int .i64 0)).setCell ⟨w.heap.size, 7, none⟩ (.int .i64 0)) := ⟨_, rfl⟩
                    rw [← hW9]
                    have h9 : W9 = putP w7 w.heap.size ⟨10, 0, 0, 0, 0, f1, 0, 0⟩ := hW9
                    have X9 : BoxS W9 w.heap.size ⟨10, 0, 0, 0, 0, f1, 0, 0⟩ := by rw [h9]; exact putP_box X7.out _
                    have B9 : Below w.heap.size w W9 := by rw [h9]; exact putP_below BK7.out (Nat.le_refl _) _
                    clear hW9 h9
                    refine bodyPost_P2 rfl w.heap.size ⟨10, 0, 0, 0, 0, f1, 0, 0⟩ rfl X9 rfl ⟨?_, B9⟩
                    rw [HRS.out, HRE.out, HF2.out.1, HF2.out.2, ← LS.out 10]
                    rfl
                  · have hbe : (LK == l) = false := by simpa using hlk
                    have HNE := hid (show lnL l 10 ≠ l by rw [← HLK.out]; exact hlk)
                    clear hlk
                    go_wp2_with fail
                    refine ⟨⟨11, by omega, by omega, by go_num, HX7, hid fun t h1 h2 => ?_⟩, ?_⟩
                    · by_cases e : t = 10
                      · rw [e]; exact HNE.out
                      · exact HL.out t h1 (by omega)
                    · simp [intOf] <;> omega
                · have KS := hid (rshow_c (lineS f1 f2 f3 f4 11) (HIN.out 11) (wr.alloc (.cells (stC ⟨11, 0, 0, 0, 0, f1, 0, 0⟩) 23)))
                  have hsh := line_show f1 f2 f3 f4 11 (by omega) (by omega)
                  rw [hsh.1, hsh.2] at KS
                  obtain ⟨LK, hLK⟩ : ∃ LK, LK = lineL f1 f2 f3 f4 11 := ⟨_, rfl⟩
                  rw [← hLK] at KS
                  have HLK := hid (show LK = lnL l 11 by rw [hLK]; unfold lineL; rw [LS.out 11]; rfl)
                  obtain ⟨N6, hN6⟩ : ∃ N6, N6 = wr.heap.size := ⟨_, rfl⟩
                  have YB := hid (show BoxS (wr.alloc (.cells (stC ⟨11, 0, 0, 0, 0, f1, 0, 0⟩) 23)) N6 ⟨11, 0, 0, 0, 0, f1, 0, 0⟩ by rw [hN6]; unfold BoxS; show (wr.heap.push _)[wr.heap.size]? = _; simp)
                  have BB := hid (show Below N6 wr (wr.alloc (.cells (stC ⟨11, 0, 0, 0, 0, f1, 0, 0⟩) 23)) by rw [hN6]; exact (Below.refl _ _).alloc (Nat.le_refl _) _)
                  have HN6 := hid hN6
                  clear hLK hsh NX hN6
                  go_wp2_with fail
                  refine KS.out.mono ?_
                  rintro e w7 ⟨rfl, b7⟩
                  rw [← HN6.out]
                  have hl6 := YB.out.lt
                  have Y7 := hid (YB.out.keep (b7.block _ hl6))
                  have BB7 := hid (BB.out.trans (b7.mono (Nat.le_of_lt hl6)))
                  have hn6 := HN6.out
                  have X7 := hid (XK.out.keep (BB7.out.block _ (by omega)))
                  have BK7 := hid (BK.out.trans (BB7.out.mono (by omega)))
                  have HX7 := hid (HX.out.trans (BB7.out.mono (by omega)))
                  clear KS b7 y1 y2 y3 y4 hn6 hl6
                  obtain ⟨x0, x1, x2, x3, x4, x5, x6, x7⟩ := Y7.out.cell
                  simp only at x0 x1 x2 x3 x4 x5 x6 x7
                  obtain ⟨z0, z1, z2, z3, z4, z5, z6, z7⟩ := BoxS.cell X7.out
                  simp only at z0 z1 z2 z3 z4 z5 z6 z7
                  have q0 := frozen_block X7.out 0
                  have q1 := frozen_block X7.out 1
                  have q2 := frozen_block X7.out 2
                  have q3 := frozen_block X7.out 3
                  have q4 := frozen_block X7.out 4
                  have q5 := frozen_block X7.out 5
                  have q6 := frozen_block X7.out 6
                  have q7 := frozen_block X7.out 7
                  by_cases hlk : LK = l
                  · have hf := found (l := l) (k := 11) (by omega) (by omega) (by rw [← HLK.out]; exact hlk)
                    have HF2 := hid hf
                    have hbe : (LK == l) = true := by rw [hlk]; simp
                    clear hf hlk
                    go_wp2_with fail
                    obtain ⟨W9, hW9⟩ : ∃ W9, W9 = ((((((((w7.setCell ⟨w.heap.size, 0, none⟩ (.int .i64 11)).setCell ⟨w.heap.size, 1, none⟩ (.int .i64 0)).setCell ⟨w.heap.size, 2, none⟩ (.int .i64 0)).setCell ⟨w.heap.size, 3, none⟩ (.int .i64 0)).setCell ⟨w.heap.size, 4, none⟩ (.int .i64 0)).setCell ⟨w.heap.size, 5, none⟩ (.int .i64 f1)).setCell ⟨w.heap.size, 6, none⟩ (.int .i64 0)).setCell ⟨w.heap.size, 7, none⟩ (.int .i64 0)) := ⟨_, rfl⟩
                    rw [← hW9]
                    have h9 : W9 = putP w7 w.heap.size ⟨11, 0, 0, 0, 0, f1, 0, 0⟩ := hW9
                    have X9 : BoxS W9 w.heap.size ⟨11, 0, 0, 0, 0, f1, 0, 0⟩ := by rw [h9]; exact putP_box X7.out _
                    have B9 : Below w.heap.size w W9 := by rw [h9]; exact putP_below BK7.out (Nat.le_refl _) _
                    clear hW9 h9
                    refine bodyPost_P2 rfl w.heap.size ⟨11, 0, 0, 0, 0, f1, 0, 0⟩ rfl X9 rfl ⟨?_, B9⟩
                    rw [HRS.out, HRE.out, HF2.out.1, HF2.out.2, ← LS.out 11]
                    rfl
                  · have hbe : (LK == l) = false := by simpa using hlk
                    have HNE := hid (show lnL l 11 ≠ l by rw [← HLK.out]; exact hlk)
                    clear hlk
                    go_wp2_with fail
                    refine ⟨⟨12, by omega, by omega, by go_num, HX7, hid fun t h1 h2 => ?_⟩, ?_⟩
                    · by_cases e : t = 11
                      · rw [e]; exact HNE.out
                      · exact HL.out t h1 (by omega)
                    · simp [intOf] <;> omega
end Go.Proofs.YtaimgddhbkcikapDoor
