/-
  sameLists of law. The document's FrameHeard.
-/
import Derived.Test.YtkmnofmhjoehialQd
import Derived.Test.YtkmnofmhjoehialSel
import Derived.Deep.LoopGhost
import Derived.Deep.QuietTactic
import Derived.BigQuiet
import Derived.Test.YtkmnofmhjoehialQp
import Derived.Test.YtkmnofmhjoehialQn
import Derived.Test.YtkmnofmhjoehialQg
import Derived.Test.YtkmnofmhjoehialRSame
import Derived.Deep.Cut
namespace Go.Proofs.Ytkmnofmhjoehial
open Go.RowKit Go.Shelf

theorem SegLs.drew {w : World} {v : Value} {st : List (List Plain.En)} (h : SegLs w v st) (q : Nat) : SegLs (w.drewN q) v st := h.grow (below_drewN (Below.refl _ _) q)
set_option maxHeartbeats 4000000 in
theorem lists_same (v1 v2 : Value) (st : List (List Plain.En)) (hn : st.length ≤ 1000) (hs : ∀ l ∈ st, l.length ≤ 1000) (w : World) (h1 : SegLs w v1 st) (h2 : SegLs w v2 st) :
    Calls Try.prog 21 #[v1, v2] w fun e w' => e = .returned (.bool true) ∧ ∃ q, w' = w.drewN q := by
  have HS1 := hid (fun q => h1.drew q)
  have HS2 := hid (fun q => h2.drew q)
  obtain ⟨_, p1, c1, rfl, _⟩ := h1
  obtain ⟨_, p2, c2, rfl, _⟩ := h2
  go_enter Try.func21, Try.ntmps21
  go_wp2
  go_loopg [5] st.length (fun gg s5 wr => ∃ k q : Nat, k ≤ st.length ∧ st.length - k ≤ gg ∧ s5 = .int .i64 k ∧ Aside (wr = w.drewN q))
  case atStart => exact ⟨0, 0, Nat.zero_le _, by omega, rfl, (show Aside _ from rfl)⟩
  case round =>
    obtain ⟨k, q, hk, hg, rfl, AW⟩ := hrel
    by_cases hlt : k < st.length
    · have hltz : (k : Int) < (st.length : Int) := by omega
      obtain ⟨b1, o1, rfl, u1, k1, e1⟩ := (HS1.out q).at hlt
      obtain ⟨b2, o2, rfl, u2, k2, e2⟩ := (HS2.out q).at hlt
      rw [← AW.out] at k1 k2 e1 e2
      have hle := hs (st.getD k []) (by rw [List.getD_eq_getElem?_getD, List.getElem?_eq_getElem hlt]; exact List.getElem_mem hlt)
      have K := fun q' => law.same_any u1 u2 (st.getD k []) hle (wr.drewN q') (e1.grow (below_drewN (Below.refl _ _) q')).sg (e2.grow (below_drewN (Below.refl _ _) q')).sg
      clear e1 e2
      go_wp2
      go_quiet ((go_at_call 43; exact Calls.quiet_of (K _)))
      have HW := hid (show wr.drewN nq = w.drewN (q + nq) by rw [AW.out]; exact drewN_add w q nq)
      clear K k1 k2
      go_wp2
      go_roundg (st.length - (k + 1))
      case measure => omega
      case rel => exact ⟨k + 1, q + nq, by omega, by omega, by go_num, (show Aside _ from HW.out)⟩
    · have hltz : ¬ (k : Int) < (st.length : Int) := by omega
      go_wp2
      go_ret
      exact ⟨rfl, q, AW.out⟩
end Go.Proofs.Ytkmnofmhjoehial
namespace Go.Proofs.Ytkmnofmhjoehial
open Go.RowKit Go.Shelf

theorem HrI.start (W : World) (n : Nat) : HrI W ((W.alloc (.cells #[.int .i64 0] 3)).alloc (.cells (madeCells #[.slice none 0 0] n) 49)) W.heap.size (W.heap.size + 1) n 0 (fun _ => .slice none 0 0) (fun _ => []) := by
  have s1 : (W.alloc (.cells #[.int .i64 0] 3)).heap.size = W.heap.size + 1 := by simp
  have ra : (W.alloc (.cells #[.int .i64 0] 3)).rowIs W.heap.size 3 1 (fun _ => .int .i64 ((0 : Nat) : Int)) := by
    refine World.rowIs_alloc _ _ 3 _ fun i hi => ?_
    have : i = 0 := by have : i < 1 := hi; omega
    subst this
    rfl
  refine ⟨ra.alloc _, by rw [← s1]; exact World.rowIs_made _ (.slice none 0 0) n 49, fun j _ => OwnN.nil _ _ _, fun i j _ _ _ => .inl rfl, ((Below.refl _ _).alloc (Nat.le_refl _) _).alloc (by simp) _, Nat.le_refl _, by omega⟩

theorem Plain.rum_lt (c : Plain.Cf) (a b : Int) (st : List (List Plain.En)) : ∀ x ∈ Plain.rumB c a b st, x < 256 := by
  intro x hx
  unfold Plain.rumB at hx
  split at hx
  · exact Plain.pack_lt _ x hx
  · simp at hx
set_option maxHeartbeats 8000000 in
set_option maxRecDepth 100000 in
theorem rheard_c (c : Plain.Cf) (lv mv u : Value) (x y : Int) (bl : List Nat) (hm : bl.length ≤ 9223372036854775807) (hr : ∀ z ∈ bl, z < 256) (w : World) (hI : CfI w c lv mv) (hs : SegB w u bl) (hl : Lies w.heap.size u) :
    Calls Try.prog 20 #[cfV c lv mv, .int .i64 x, .int .i64 y, u] w (HeaP c x y bl w) := by
  have bC : Below w.heap.size w (w.alloc (boxC c lv mv)) := (Below.refl _ _).alloc (Nat.le_refl _) _
  have bD : Below (w.alloc (boxC c lv mv)).heap.size (w.alloc (boxC c lv mv)) ((w.alloc (boxC c lv mv)).alloc (.cells #[u] 26)) := (Below.refl _ _).alloc (Nat.le_refl _) _
  have B0 := hid ((BcI.start hI).grow bD)
  have s1 : (w.alloc (boxC c lv mv)).heap.size = w.heap.size + 1 := by simp
  have C0 := hid (show ((w.alloc (boxC c lv mv)).alloc (.cells #[u] 26)).cell? ⟨w.heap.size + 1, 0, none⟩ = some u by rw [← s1, World.cell?_alloc_at _ _ _ _ rfl]; rfl)
  obtain ⟨pu, cu, rfl⟩ := segB_form hs
  have HS := hid (fun (X : World) (b : Below w.heap.size w X) => hs.below b hl)
  have HL := hid hl
  obtain ⟨lp, lc, rfl⟩ := seg_len hI.sl
  obtain ⟨mp, mc, rfl⟩ := seg_len hI.sm
  have HSL := hid (fun (X : World) (b : Below w.heap.size w X) => seg_at (hI.sl.below b hI.ll))
  have KM := rmay_c c (.slice lp c.ls.length lc) (.slice mp c.ms.length mc) _ B0.out.ci
  clear hI hs hl bC bD s1
  cases hmay : Plain.mayC c with
  | false =>
    rw [hmay] at KM
    have hE : Plain.refE c x y = 4 := by unfold Plain.refE; rw [hmay]; rfl
    have HN := hid (Plain.hea_ref (bl := bl) (by rw [hE]; decide))
    rw [hE] at HN
    clear hE hmay
    obtain ⟨n, ls, t, ms, cap⟩ := c
    dsimp only at *
    go_enter Try.func20, Try.ntmps20
    go_wp2_with fail
    refine KM.mono ?_
    rintro e w1 ⟨rfl, b1⟩
    have B1 := hid (B0.out.grow b1)
    clear B0 KM b1
    go_wp2
    go_ret2
    exact heaP_no HN.out B1.out.be
  | true =>
    rw [hmay] at KM
    have HRN := hid (fun (h : ¬ ((0 ≤ x ∧ x < c.n) ∧ (0 ≤ y ∧ y < c.n))) => show Plain.heaE c x y bl = 2 ∧ Plain.heaV c x y bl = [] by
      have hE : Plain.refE c x y = 2 := by unfold Plain.refE; rw [if_pos hmay, if_neg h]
      have := Plain.hea_ref (bl := bl) (c := c) (a := x) (b := y) (by rw [hE]; decide)
      rw [hE] at this
      exact this)
    have HRY := hid (fun (h : (0 ≤ x ∧ x < c.n) ∧ (0 ≤ y ∧ y < c.n)) => show Plain.refE c x y = 0 by unfold Plain.refE; rw [if_pos hmay, if_pos h])
    have h18 := (Plain.may_all hmay).1
    have h4 := (Plain.may_all hmay).2.1
    have HLT := hid (Plain.lab_lt hmay)
    clear hmay
    by_cases q0 : x < 0
    · have HN := hid (HRN.out (by omega))
      obtain ⟨n, ls, t, ms, cap⟩ := c
      dsimp only at *
      go_enter Try.func20, Try.ntmps20
      go_wp2_with fail
      refine KM.mono ?_
      rintro e w1 ⟨rfl, b1⟩
      have B1 := hid (B0.out.grow b1)
      obtain ⟨c0, c1, c2, c3, c4⟩ := B1.out.cc
      clear B0 KM b1
      go_wp2
      go_ret2
      exact heaP_no HN.out B1.out.be
    by_cases q1 : c.n ≤ x
    · have HN := hid (HRN.out (by omega))
      obtain ⟨n, ls, t, ms, cap⟩ := c
      dsimp only at *
      go_enter Try.func20, Try.ntmps20
      go_wp2_with fail
      refine KM.mono ?_
      rintro e w1 ⟨rfl, b1⟩
      have B1 := hid (B0.out.grow b1)
      obtain ⟨c0, c1, c2, c3, c4⟩ := B1.out.cc
      clear B0 KM b1
      go_wp2
      go_ret2
      exact heaP_no HN.out B1.out.be
    by_cases q2 : y < 0
    · have HN := hid (HRN.out (by omega))
      obtain ⟨n, ls, t, ms, cap⟩ := c
      dsimp only at *
      go_enter Try.func20, Try.ntmps20
      go_wp2_with fail
      refine KM.mono ?_
      rintro e w1 ⟨rfl, b1⟩
      have B1 := hid (B0.out.grow b1)
      obtain ⟨c0, c1, c2, c3, c4⟩ := B1.out.cc
      clear B0 KM b1
      go_wp2
      go_ret2
      exact heaP_no HN.out B1.out.be
    by_cases q3 : c.n ≤ y
    · have HN := hid (HRN.out (by omega))
      obtain ⟨n, ls, t, ms, cap⟩ := c
      dsimp only at *
      go_enter Try.func20, Try.ntmps20
      go_wp2_with fail
      refine KM.mono ?_
      rintro e w1 ⟨rfl, b1⟩
      have B1 := hid (B0.out.grow b1)
      obtain ⟨c0, c1, c2, c3, c4⟩ := B1.out.cc
      clear B0 KM b1
      go_wp2
      go_ret2
      exact heaP_no HN.out B1.out.be
    have hE := HRY.out (by omega)
    obtain ⟨xn, rfl⟩ := Int.eq_ofNat_of_zero_le (show 0 ≤ x by omega)
    obtain ⟨yn, rfl⟩ := Int.eq_ofNat_of_zero_le (show 0 ≤ y by omega)
    have hxn : xn < 8 := by omega
    have hyn : yn < 8 := by omega
    have HAG := hid (Plain.hea_again hE hr)
    clear HRN HRY hE h18
    obtain ⟨n, ls, t, ms, cap⟩ := c
    dsimp only at *
    go_enter Try.func20, Try.ntmps20
    go_wp2_with fail
    refine KM.mono ?_
    rintro e W ⟨rfl, b1⟩
    have B1 := hid (B0.out.grow b1)
    have C1 := hid ((b1.cell (p := ⟨w.heap.size + 1, 0, none⟩) (World.block_lt_of_cell? (w := _) (h := C0.out))).trans C0.out)
    obtain ⟨c0, c1, c2, c3, c4⟩ := B1.out.cc
    have hmk := run_make_row' (P := Try.prog) 36 49 (.slice none 0 0) 24 Try.underlying36 Try.infoRowE rfl .i64 .i64 ls.length (by omega) (by omega)
    have H0 := hid (HrI.start W ls.length)
    have hwW : w.heap.size + 1 < W.heap.size := World.block_lt_of_cell? (w := W) (h := C1.out)
    clear B0 KM b1 C0
    go_upto_region 7 with fail
    obtain ⟨W2, hW2⟩ : ∃ W2, W2 = W.alloc (.cells #[.int .i64 0] 3) := ⟨_, rfl⟩
    have bW2 : Below W.heap.size W W2 := by rw [hW2]; exact (Below.refl _ _).alloc (Nat.le_refl _) _
    have sW2 : W2.heap.size = W.heap.size + 1 := by rw [hW2]; simp
    rw [← hW2] at H0
    rw [show W.alloc (.cells #[.int .i64 0] 3) = W2 from hW2.symm]
    clear hW2 c0 c1 c2 c3 c4
    obtain ⟨c0, c1, c2, c3, c4⟩ := (B1.out.grow bW2).cc
    have hn3 : ¬ w.heap.size = W2.heap.size := by omega
    have hn4 : ¬ W2.heap.size = w.heap.size := by omega
    go_upto_region 8 with fail
    obtain ⟨W3, hW3⟩ : ∃ W3, W3 = W2.alloc (.cells (madeCells #[.slice none 0 0] ls.length) 49) := ⟨_, rfl⟩
    have bW3 : Below W2.heap.size W2 W3 := by rw [hW3]; exact (Below.refl _ _).alloc (Nat.le_refl _) _
    rw [← hW3] at H0
    rw [← hW3]
    clear hW3 c0 c1 c2 c3 c4
    obtain ⟨c0, c1, c2, c3, c4⟩ := ((B1.out.grow bW2).grow bW3).cc
    try rw [sW2]
    go_wp2
    clear c0 c1 c2 c3 c4 hmk q0 q1 q2 q3 hn3 hn4 bW2 bW3 sW2
    obtain ⟨A, hA⟩ : ∃ A, A = W.heap.size := ⟨_, rfl⟩
    obtain ⟨O, hO⟩ : ∃ O, O = W.heap.size + 1 := ⟨_, rfl⟩
    rw [← hO, ← hA]
    rw [← hO, ← hA] at H0
    have BW := hid B1.out.be
    have HSW := hid (fun (X : World) (b : Below W.heap.size W X) => HS.out X (BW.out.trans (b.mono BW.out.size)))
    have HLW := hid (fun (X : World) (b : Below W.heap.size W X) => HSL.out X (BW.out.trans (b.mono BW.out.size)))
    have HCB := hid (fun (X : World) (b : Below W.heap.size W X) => (b.cell (p := ⟨w.heap.size + 1, 0, none⟩) hwW).trans C1.out)
    have HBC := hid (fun (X : World) (b : Below W.heap.size W X) => B1.out.grow b)
    have HAL := hid (show Lies A (.slice pu bl.length cu) from HL.out.mono (by rw [hA]; omega))
    have HAB := hid (show A ≠ w.heap.size + 1 by omega)
    have KT := hid (fun (nn at_ : Nat) (hn : nn ≤ 34) (ha : at_ ≤ 100000) (X : World) (b : Below W.heap.size W X) (h : X.rowIs A 3 1 (fun _ => .int .i64 (at_ : Int))) => take_c A (w.heap.size + 1) nn at_ pu cu bl hr hn ha hm X HAB.out (HSW.out X b) HAL.out (HCB.out X b) h)
    clear hA hO C1 HS HSL HAL HAB B1 HL hwW
    obtain ⟨OD, hOD⟩ : ∃ OD, OD = Plain.outD ls xn yn bl := ⟨_, rfl⟩
    have HOD := hid (fun j => show OD j = if Plain.both (ls.getD j 0) xn yn = true then Plain.entsD (Plain.slF bl (Plain.comL ls xn yn j).length) 8 else [] by rw [hOD]; rfl)
    have HOL := hid (show Plain.outL ls xn yn bl = (List.range ls.length).map OD by rw [hOD]; rfl)
    clear hOD
    go_loopg [52] ls.length (fun gg s52 wr => ∃ i : Nat, i ≤ ls.length ∧ ls.length - i ≤ gg ∧ s52 = .int .i64 i ∧ Aside (∃ U, HrI W wr A O ls.length (272 * (Plain.comL ls xn yn i).length) U (fun j => if j < i then OD j else [])))
    case atStart => exact ⟨0, Nat.zero_le _, by omega, rfl, (show Aside _ from ⟨_, H0.out.congr (fun j _ => by rw [if_neg (Nat.not_lt_zero _)]) rfl⟩)⟩
    case round =>
      obtain ⟨i, hi, hg, rfl, A0⟩ := hrel
      by_cases hlt : i < ls.length
      · have hltz : (i : Int) < (ls.length : Int) := by omega
        obtain ⟨U, a0⟩ := A0.out
        have A1 := hid a0
        clear A0 a0
        obtain ⟨lb, off, rfl, hc⟩ := HLW.out wr A1.out.be (by omega)
        have c0 := hc i hlt
        have hs2 := HLT.out (ls.getD i 0) (by rw [Plain.getD_ltI _ _ hlt]; exact List.getElem_mem hlt)
        obtain ⟨s, hsn⟩ := Int.eq_ofNat_of_zero_le hs2.1
        rw [hsn] at c0 hs2
        have hs256 : s < 256 := by omega
        have KX := rreadsQ s xn hs256 hxn
        have KY := rreadsQ s yn hs256 hyn
        have HBO := hid (show Plain.both (ls.getD i 0) xn yn = ((s / 2 ^ xn % 2 == 1) && (s / 2 ^ yn % 2 == 1)) by rw [hsn]; unfold Plain.both; rw [Plain.rd_nat s xn hxn, Plain.rd_nat s yn hyn])
        clear hc hs2 hsn
        generalize (s / 2 ^ xn % 2 == 1) = rx at KX HBO
        generalize (s / 2 ^ yn % 2 == 1) = ry at KY HBO
        cases rx with
        | false =>
          have HQ := hid (show Plain.comL ls xn yn (i + 1) = Plain.comL ls xn yn i by rw [Plain.com_succ, if_neg (by rw [HBO.out]; simp)])
          have HOI := hid (show OD i = [] by rw [HOD.out, if_neg (by rw [HBO.out]; simp)])
          have A2 := hid (A1.out.congr (H := fun j => if j < i + 1 then OD j else []) (fun j _ => by
            by_cases e : j = i
            · rw [e, if_neg (Nat.lt_irrefl _), if_pos (by omega), HOI.out]
            · by_cases h : j < i
              · rw [if_pos h, if_pos (by omega)]
              · rw [if_neg h, if_neg (by omega)]) (b := 272 * (Plain.comL ls xn yn (i + 1)).length) (by rw [HQ.out]))
          clear KY
          go_wp2_with fail
          refine (KX _).mono ?_
          rintro e w2 ⟨rfl, hx⟩
          have hy := hx.symm
          clear hx KX
          subst hy
          go_wp2
          go_roundg (ls.length - (i + 1))
          case measure => omega
          case rel => exact ⟨i + 1, by omega, by omega, by go_num, (show Aside _ from ⟨_, A2.out⟩)⟩
        | true =>
          cases ry with
          | false =>
            have HQ := hid (show Plain.comL ls xn yn (i + 1) = Plain.comL ls xn yn i by rw [Plain.com_succ, if_neg (by rw [HBO.out]; simp)])
            have HOI := hid (show OD i = [] by rw [HOD.out, if_neg (by rw [HBO.out]; simp)])
            have A2 := hid (A1.out.congr (H := fun j => if j < i + 1 then OD j else []) (fun j _ => by
              by_cases e : j = i
              · rw [e, if_neg (Nat.lt_irrefl _), if_pos (by omega), HOI.out]
              · by_cases h : j < i
                · rw [if_pos h, if_pos (by omega)]
                · rw [if_neg h, if_neg (by omega)]) (b := 272 * (Plain.comL ls xn yn (i + 1)).length) (by rw [HQ.out]))
            go_wp2_with fail
            refine (KX _).mono ?_
            rintro e w2 ⟨rfl, hx⟩
            have hy := hx.symm
            clear hx KX
            subst hy
            go_wp2_with fail
            refine (KY _).mono ?_
            rintro e w2 ⟨rfl, hx⟩
            have hy := hx.symm
            clear hx KY
            subst hy
            go_wp2
            go_roundg (ls.length - (i + 1))
            case measure => omega
            case rel => exact ⟨i + 1, by omega, by omega, by go_num, (show Aside _ from ⟨_, A2.out⟩)⟩
          | true =>
            have hcl := Plain.com_len ls xn yn i
            have HQ := hid (show (Plain.comL ls xn yn (i + 1)).length = (Plain.comL ls xn yn i).length + 1 by rw [Plain.com_succ, if_pos (by rw [HBO.out]; rfl), List.length_append]; rfl)
            have HOI := hid (show OD i = Plain.entsD (Plain.slF bl (Plain.comL ls xn yn i).length) 8 by rw [HOD.out, if_pos (by rw [HBO.out]; rfl)])
            obtain ⟨ps, hps⟩ : ∃ ps, ps = (Plain.comL ls xn yn i).length := ⟨_, rfl⟩
            rw [← hps] at HQ HOI hcl A1
            clear hps
            obtain ⟨F, hF⟩ : ∃ F, F = Plain.slF bl ps := ⟨_, rfl⟩
            rw [← hF] at HOI
            have HF := hid hF
            clear hF
            go_wp2_with fail
            refine (KX _).mono ?_
            rintro e w2 ⟨rfl, hx⟩
            have hy := hx.symm
            clear hx KX
            subst hy
            go_wp2_with fail
            refine (KY _).mono ?_
            rintro e w2 ⟨rfl, hx⟩
            have hy := hx.symm
            clear hx KY
            subst hy
            go_wp2
            clear c0
            go_loopg [15] 8 (fun gg s15 wr => ∃ k : Nat, k ≤ 8 ∧ 8 - k ≤ gg ∧ s15 = .int .i64 k ∧ Aside (∃ U, HrI W wr A O ls.length (272 * ps + 34 * k) U (fun j => if j < i then OD j else if j = i then Plain.entsD F k else [])))
            case atStart => exact ⟨0, Nat.zero_le _, by omega, rfl, (show Aside _ from ⟨_, A1.out.congr (fun j _ => by
              by_cases h : j < i
              · rw [if_pos h, if_pos h]
              · rw [if_neg h, if_neg h]
                split <;> rfl) rfl⟩)⟩
            case round =>
              obtain ⟨k, hk, hgk, rfl, A3⟩ := hrel
              by_cases hltk : k < 8
              · have hltkz : (k : Int) < 8 := by omega
                obtain ⟨U3, a3⟩ := A3.out
                obtain ⟨G, hG⟩ : ∃ G : Nat → List Plain.En, G = fun j => if j < i then OD j else if j = i then Plain.entsD F k else [] := ⟨_, rfl⟩
                rw [← hG] at a3
                have T0 := hid a3
                have HGI := hid (show G i = Plain.entsD F k by rw [hG]; simp)
                have HGG := hid (fun j => show G j = if j < i then OD j else if j = i then Plain.entsD F k else [] by rw [hG])
                clear a3 A3 hG
                obtain ⟨ap, hap⟩ : ∃ ap, ap = 272 * ps + 34 * k := ⟨_, rfl⟩
                rw [← hap] at T0
                have hap1 : ap ≤ 5000 := by omega
                obtain ⟨n1, h1⟩ : ∃ n1, n1 = Plain.num (Plain.bitOf bl) ap 1 := ⟨_, rfl⟩
                obtain ⟨n2, h2⟩ : ∃ n2, n2 = Plain.num (Plain.bitOf bl) (ap + 1) 1 := ⟨_, rfl⟩
                obtain ⟨n8, h3⟩ : ∃ n8, n8 = Plain.num (Plain.bitOf bl) (ap + 1 + 1) 8 := ⟨_, rfl⟩
                obtain ⟨n21, h4'⟩ : ∃ n21, n21 = Plain.num (Plain.bitOf bl) (ap + 1 + 1 + 8) 21 := ⟨_, rfl⟩
                obtain ⟨n3, h5⟩ : ∃ n3, n3 = Plain.num (Plain.bitOf bl) (ap + 1 + 1 + 8 + 21) 3 := ⟨_, rfl⟩
                have HDE := hid (show Plain.entsD F (k + 1) = Plain.entsD F k ++ (if n1 = 1 then [⟨k, (n8 : Nat), (n21 : Nat), (n3 : Nat), n2 == 1⟩] else []) by
                  rw [Plain.entsD_succ, HF.out, show Plain.slF bl ps k = Plain.num (Plain.bitOf bl) ap 34 by unfold Plain.slF; rw [hap, show 34 * (ps * 8 + k) = 272 * ps + 34 * k by omega], Plain.dec_slot _ (Plain.bitOf_lt bl), h1, h2, h3, h4', h5]
                  rfl)
                have HGO := hid (show ((n2 : Int) == 1) = (n2 == 1) by rw [Bool.eq_iff_iff, beq_iff_eq, beq_iff_eq]; omega)
                have HLK := hid (show (Plain.entsD F k).length ≤ 10000 by have := Plain.entsD_len F k; omega)
                have HAP := hid hap
                have H1 := hid h1
                have H2 := hid h2
                have H3 := hid h3
                have H4 := hid h4'
                have H5 := hid h5
                clear hap h1 h2 h3 h4' h5
                have K1 := KT.out 1 (ap) (by omega) (by omega) wr T0.out.be T0.out.ra
                rw [show ((1 : Nat) : Int) = 1 from rfl, ← H1.out] at K1
                go_wp2_with fail
                refine K1.mono ?_
                rintro e w1 ⟨rfl, t1⟩
                have T1 := hid (T0.out.take t1)
                clear K1 t1 T0
                have K2 := KT.out 1 (ap + 1) (by omega) (by omega) w1 T1.out.be T1.out.ra
                rw [show ((1 : Nat) : Int) = 1 from rfl, ← H2.out] at K2
                go_wp2_with fail
                refine K2.mono ?_
                rintro e w2 ⟨rfl, t2⟩
                have T2 := hid (T1.out.take t2)
                clear K2 t2 T1
                have K3 := KT.out 8 (ap + 1 + 1) (by omega) (by omega) w2 T2.out.be T2.out.ra
                rw [show ((8 : Nat) : Int) = 8 from rfl, ← H3.out] at K3
                go_wp2_with fail
                refine K3.mono ?_
                rintro e w3 ⟨rfl, t3⟩
                have T3 := hid (T2.out.take t3)
                clear K3 t3 T2
                have K4 := KT.out 21 (ap + 1 + 1 + 8) (by omega) (by omega) w3 T3.out.be T3.out.ra
                rw [show ((21 : Nat) : Int) = 21 from rfl, ← H4.out] at K4
                go_wp2_with fail
                refine K4.mono ?_
                rintro e w4 ⟨rfl, t4⟩
                have T4 := hid (T3.out.take t4)
                clear K4 t4 T3
                have K5 := KT.out 3 (ap + 1 + 1 + 8 + 21) (by omega) (by omega) w4 T4.out.be T4.out.ra
                rw [show ((3 : Nat) : Int) = 3 from rfl, ← H5.out] at K5
                go_wp2_with fail
                refine K5.mono ?_
                rintro e w5 ⟨rfl, t5⟩
                have T5 := hid (T4.out.take t5)
                clear K5 t5 T4
                clear H1 H2 H3 H4 H5
                by_cases hn1 : n1 = 1
                · have hq : ((n1 : Int) == 1) = true := by rw [hn1]; rfl
                  have HD2 := hid (HDE.out.trans (by rw [if_pos hn1]))
                  obtain ⟨q, d, V, r1, r2, r3⟩ := T5.out.push hlt ⟨k, n8, n21, n3, ((n2 : Int) == 1)⟩ (by rw [HGI.out]; exact HLK.out)
                  have o0 := T5.out.ro.cell hlt
                  have o1 := r2.cell hlt
                  have o2 := r2.frozen i
                  have o3 : O < V.heap.size := r2.lt
                  have R1 := hid r1
                  have R3 := hid (r3.congr (H := fun j => if j < i then OD j else if j = i then Plain.entsD F (k + 1) else []) (fun j _ => by
                    by_cases e : j = i
                    · rw [if_pos e, if_neg (by omega), if_pos e, HD2.out, HGI.out, HGO.out]
                    · rw [if_neg e, HGG.out, if_neg e, if_neg e]) (b := 272 * ps + 34 * (k + 1)) (by have := HAP.out; omega))
                  clear r1 r2 r3 T5 hn1
                  go_wp2_with (first | (at_builtin; refine wpList_app _ _ 49 R1.out (by rfl) (by rfl) (by rfl) (by rfl) (by rfl) ?_) | fail)
                  go_roundg (8 - (k + 1))
                  case measure => omega
                  case rel => exact ⟨k + 1, by omega, by omega, by go_num, (show Aside _ from ⟨_, R3.out⟩)⟩
                · have hq : ((n1 : Int) == 1) = false := by rw [beq_eq_false_iff_ne]; omega
                  have HD2 := hid (HDE.out.trans (by rw [if_neg hn1, List.append_nil]))
                  have R3 := hid (T5.out.congr (H := fun j => if j < i then OD j else if j = i then Plain.entsD F (k + 1) else []) (fun j _ => by rw [HGG.out, HD2.out]) (b := 272 * ps + 34 * (k + 1)) (by have := HAP.out; omega))
                  clear T5 hn1
                  go_wp2
                  go_roundg (8 - (k + 1))
                  case measure => omega
                  case rel => exact ⟨k + 1, by omega, by omega, by go_num, (show Aside _ from ⟨_, R3.out⟩)⟩
              · have hltkz : ¬ (k : Int) < 8 := by omega
                have ek : k = 8 := by omega
                subst ek
                obtain ⟨U3, a3⟩ := A3.out
                have A4 := hid (a3.congr (H := fun j => if j < i + 1 then OD j else []) (fun j _ => by
                  by_cases h : j < i
                  · rw [if_pos h, if_pos (by omega)]
                  · rw [if_neg h]
                    by_cases e : j = i
                    · rw [if_pos e, if_pos (by omega), e, HOI.out]
                    · rw [if_neg e, if_neg (by omega)]) (b := 272 * (Plain.comL ls xn yn (i + 1)).length) (by rw [HQ.out]; omega))
                clear a3 A3
                go_wp2
                go_roundg (ls.length - (i + 1))
                case measure => omega
                case rel => first | exact ⟨i + 1, by omega, by omega, by go_num, (show Aside _ from ⟨_, A4.out⟩)⟩ | ((repeat apply Exists.intro); refine ⟨⟨i + 1, by omega, by omega, ?_, (show Aside _ from ⟨_, A4.out⟩)⟩, rfl⟩; go_num)
      · have hltz : ¬ (i : Int) < (ls.length : Int) := by omega
        have ei : i = ls.length := by omega
        subst ei
        obtain ⟨U, a0⟩ := A0.out
        have sg : SegLs wr (.slice (some ⟨O, 0, none⟩) ls.length ls.length) (Plain.outL ls xn yn bl) := by
          rw [HOL.out]
          have h1 := a0.segs (by omega) (fun j hj => by
            rw [if_pos hj, HOD.out]
            split
            · have := Plain.entsD_len (Plain.slF bl (Plain.comL ls xn yn j).length) 8; omega
            · simp) ls.length
          rwa [show (List.range ls.length).map (fun j => if j < ls.length then OD j else []) = (List.range ls.length).map OD from List.map_congr_left fun j hj => by rw [if_pos (List.mem_range.1 hj)]] at h1
        have BC := HBC.out wr a0.be
        have K := rrumour_c ⟨n, ls, t, ms, cap⟩ _ _ _ xn yn (Plain.outL ls xn yn bl) wr BC.ci sg
        obtain ⟨c0, c1, c2, c3, c4⟩ := BC.cc
        have SG := hid sg
        have BE := hid a0.be
        clear A0 a0 sg BC
        go_wp2_with fail
        refine K.mono ?_
        rintro e w9 ⟨v2, rfl, g1, g2, g3⟩
        have B9 := hid (BE.out.trans (g3.mono BE.out.size))
        have BF := hid (BW.out.trans (B9.out.mono BW.out.size))
        have SG9 := hid (SG.out.grow g3)
        have cb := HCB.out w9 B9.out
        have KS := rsame_any v2 (.slice pu bl.length cu) (Plain.rumB ⟨n, ls, t, ms, cap⟩ xn yn (Plain.outL ls xn yn bl)) bl (Plain.rum_lt _ _ _ _) hr w9 g1 (HSW.out w9 B9.out)
        clear c0 c1 c2 c3 c4 K g1 g2 g3 SG BE
        generalize hE9 : Plain.rumE ⟨n, ls, t, ms, cap⟩ xn yn (Plain.outL ls xn yn bl) = E9
        by_cases h0 : E9 = 0
        · subst h0
          by_cases hsm : Plain.rumB ⟨n, ls, t, ms, cap⟩ xn yn (Plain.outL ls xn yn bl) = bl
          · rw [decide_eq_true hsm] at KS
            have HE := hid (HAG.out.1 ⟨hE9, hsm⟩)
            clear hE9 hsm
            have R := hid (show HeaP ⟨n, ls, t, ms, cap⟩ xn yn bl w (.returned (.tuple #[.slice (some ⟨O, 0, none⟩) ls.length ls.length, .int .i64 ((0 : Nat) : Int)])) w9 from ⟨_, by rw [HE.out.1], by rw [HE.out.2]; exact SG9.out, BF.out⟩)
            go_wp2_with fail
            refine KS.mono ?_
            rintro e w10 ⟨rfl, hx⟩
            have hy := hx.symm
            clear hx KS
            subst hy
            go_wp2
            go_ret2
            exact R.out
          · rw [decide_eq_false hsm] at KS
            have HE := hid (HAG.out.2 (fun h => hsm h.2))
            clear hE9 hsm
            go_wp2_with fail
            refine KS.mono ?_
            rintro e w10 ⟨rfl, hx⟩
            have hy := hx.symm
            clear hx KS
            subst hy
            go_wp2
            go_ret2
            exact heaP_no HE.out BF.out
        · have HE := hid (HAG.out.2 (fun h => h0 (by rw [← hE9]; exact h.1)))
          have hne : ((E9 : Int) != 0) = true := by rw [bne_iff_ne]; omega
          clear hE9 KS
          go_wp2
          go_ret2
          exact heaP_no HE.out BF.out
end Go.Proofs.Ytkmnofmhjoehial
