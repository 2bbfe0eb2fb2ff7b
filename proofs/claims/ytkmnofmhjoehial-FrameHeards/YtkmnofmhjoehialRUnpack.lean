/-
  A contract of the document's answer to Unpack.
-/
import Derived.Test.YtkmnofmhjoehialRt
import Derived.Test.YtkmnofmhjoehialRPack
import Derived.Test.YtkmnofmhjoehialRSame
namespace Go.Proofs.Ytkmnofmhjoehial
open Go.RowKit

theorem Try.infoField : (Try.prog.info? 56).map (fun i => (i.zero, i.size, i.bytes)) = some (some (.agg #[.int .i64 0, .int .i64 0]), 2, 16) := by kernel_rfl

/-- Values that were unpacked, as values. -/
def ovals (ws : List Int) (bl : List Nat) (k : Nat) : List Value := (List.range k).map (fun j => Value.int .i64 (Plain.valAt ws bl j : Nat))
/-- Fields, as values. -/
def lvals (l : List (Int × Int)) : List Value := l.flatMap (fun f => [Value.int .i64 f.1, Value.int .i64 f.2])
theorem ovals_succ (ws : List Int) (bl : List Nat) (k : Nat) : ovals ws bl (k + 1) = ovals ws bl k ++ [.int .i64 (Plain.valAt ws bl k : Nat)] := by simp [ovals, List.range_succ]
theorem lvals_snoc (l : List (Int × Int)) (x y : Int) : lvals (l ++ [(x, y)]) = lvals l ++ [.int .i64 x, .int .i64 y] := by simp [lvals]
theorem lvals_len (l : List (Int × Int)) : (lvals l).length = l.length * 2 := by
  induction l with
  | nil => rfl
  | cons f l ih =>
    have : lvals (f :: l) = [Value.int .i64 f.1, Value.int .i64 f.2] ++ lvals l := rfl
    rw [this, List.length_append, ih]; simp; omega
theorem lvals_get (l : List (Int × Int)) (j : Nat) (h : j < l.length) : (lvals l)[j * 2]? = some (.int .i64 (l.getD j (0, 0)).1) ∧ (lvals l)[j * 2 + 1]? = some (.int .i64 (l.getD j (0, 0)).2) := by
  induction l generalizing j with
  | nil => simp at h
  | cons f l ih =>
    have e : lvals (f :: l) = Value.int .i64 f.1 :: Value.int .i64 f.2 :: lvals l := rfl
    rw [e]
    cases j with
    | zero => simp
    | succ j =>
      have := ih j (by simpa using h)
      rw [show (j + 1) * 2 = j * 2 + 1 + 1 by omega]
      simpa using this

theorem owns_apart {w : World} {B B' e e' s s' n n' : Nat} {v v' : Value} {xs xs' : List Value} (h : w.ownsRow B e s v n xs) (h' : w.ownsRow B' e' s' v' n' xs') (he : e ≠ e') : v.ownBlock = none ∨ v.ownBlock ≠ v'.ownBlock := by
  rcases h.2 with ⟨rfl, _⟩ | ⟨g, c, cur, rfl, _, hg, _⟩
  · exact .inl rfl
  · right
    rcases h'.2 with ⟨rfl, _⟩ | ⟨g', c', cur', rfl, _, hg', _⟩
    · simp [Value.ownBlock]
    · intro e1
      have e2 : g = g' := Option.some.inj e1
      subst e2
      rw [hg] at hg'
      simp at hg'
      exact he hg'.2

theorem segF_of_owns {w : World} {base : Nat} {v : Value} {l : List (Int × Int)} (h : w.ownsRow base 56 2 v l.length (lvals l)) : SegF w v l := by
  rcases h.2 with ⟨rfl, e⟩ | ⟨g, cap, cur, rfl, _, _, _, _, _, _⟩
  · exact .inl ⟨List.length_eq_zero_iff.1 e, none, 0, rfl⟩
  · refine .inr ⟨g, 0, cap, rfl, fun j hj => ?_⟩
    have h1 := h.cells (g := g) rfl (j * 2) _ (lvals_get l j hj).1
    have h2 := h.cells (g := g) rfl (j * 2 + 1) _ (lvals_get l j hj).2
    have e1 : (⟨g, 0, none⟩ : Addr).add (j * 2) = ⟨g, 0 + j * 2, none⟩ := by unfold Addr.add; split <;> simp_all
    have e2 : (⟨g, 0, none⟩ : Addr).add (j * 2 + 1) = ⟨g, 0 + j * 2 + 1, none⟩ := by unfold Addr.add; simp
    rw [e1] at h1
    rw [e2] at h2
    exact ⟨h1, h2⟩

theorem lies_owns2 {w : World} {base n e s : Nat} {v : Value} {xs : List Value} (h : w.ownsRow base e s v n xs) : Lies w.heap.size v := by
  intro p k c hv hk
  subst hv
  exact (h.lt p.block rfl).2

theorem below_app2 {w W w1 wr : World} {v : Value} {n e s : Nat} {xs : List Value} (hW : Below w.heap.size w W) (hg : W.grownBy w1 v.ownBlock) (hown : wr.ownsRow w.heap.size e s v n xs) : Below w.heap.size w w1 :=
  hW.grown hg hW.size (fun j hj => (hown.lt j hj).1)

theorem un_le (ws : List Int) (bl : List Nat) : (Plain.unpackI ws bl).length ≤ 1000000 := by
  by_cases hz : Plain.szE ws = 0
  · have := (Plain.szE_zero ws hz).1
    unfold Plain.unpackI Plain.unpackV
    rw [List.length_map]
    split
    · rw [Plain.vals_len, List.length_map]; omega
    · simp
  · rw [(Plain.un_bad ws bl hz).2]; simp

set_option maxHeartbeats 1000000 in
theorem runpack_bad (v u : Value) (ws : List Int) (bl : List Nat) (hm : ws.length ≤ 9223372036854775807) (w : World) (h : Seg w v ws) (hz : Plain.szE ws ≠ 0) :
    Calls Try.prog 32 #[v, u] w fun e w' => e = .returned (.tuple #[.slice none 0 0, .int .i64 (Plain.unpackE ws bl : Nat)]) ∧ w' = w := by
  have H := hid h
  have HM := hid hm
  have HP := hid (Plain.un_bad ws bl hz)
  have HN := hid (beq_zero_int _ hz)
  clear h hm hz
  go_enter Try.func32, Try.ntmps32
  go_wp2_with fail
  refine (rsize_any v ws HM.out _ H.out).mono ?_
  rintro e wx ⟨rfl, hx⟩
  have hy := hx.symm
  clear hx
  subst hy
  have hne := HN.out
  generalize Plain.szE ws = z at *
  generalize Plain.szN ws = z' at *
  go_wp2
  go_ret2
  exact ⟨by rw [HP.out.1]; rfl, rfl⟩

set_option maxHeartbeats 1000000 in
theorem runpack_len (v : Value) (p : Option Addr) (c : Nat) (ws : List Int) (bl : List Nat) (hm : ws.length ≤ 9223372036854775807) (w : World) (h : Seg w v ws) (hz : Plain.szE ws = 0) (hl : bl.length ≠ Plain.szN ws) :
    Calls Try.prog 32 #[v, .slice p bl.length c] w fun e w' => e = .returned (.tuple #[.slice none 0 0, .int .i64 (Plain.unpackE ws bl : Nat)]) ∧ w' = w := by
  have H := hid h
  have HM := hid hm
  have HZ := hid hz
  have HP := hid (Plain.un_len ws bl hz hl)
  have hne : ((bl.length : Int) != (Plain.szN ws : Int)) = true := by rw [bne_iff_ne]; omega
  have HN := hid hne
  clear h hm hz hl hne
  go_enter Try.func32, Try.ntmps32
  go_wp2_with fail
  refine (rsize_any v ws HM.out _ H.out).mono ?_
  rintro e wx ⟨rfl, hx⟩
  have hy := hx.symm
  clear hx
  subst hy
  rw [HZ.out]
  have hne := HN.out
  generalize Plain.szN ws = z' at *
  go_wp2
  go_ret2
  exact ⟨by rw [HP.out.1]; rfl, rfl⟩

namespace Plain
theorem pack_lt (l : List (Int × Int)) : ∀ x ∈ packB l, x < 256 := by
  intro x hx
  unfold packB at hx
  split at hx
  · simp only [bytesOf, List.mem_map] at hx
    obtain ⟨j, _, rfl⟩ := hx
    exact byteOf_lt _ (at0_lt _ (rbits_lt _)) j
  · simp at hx
theorem sz_empty (ws : List Int) (hz : szE ws = 0) (hl : szN ws = 0) : ws = [] := by
  have h3 := szE_zero ws hz
  cases ws with
  | nil => rfl
  | cons x xs =>
    have h4 := (okW_iff x).1 (by have := h3.2.1; simp only [List.all_cons, Bool.and_eq_true] at this; exact this.1)
    have h5 : bitsN (x :: xs) = x.toNat + bitsN xs := by simp [bitsN]
    omega
end Plain

theorem o_map (ws : List Int) (bl : List Nat) : ovals ws bl ws.length = ((Plain.vals (Plain.bitOf bl) 0 (ws.map Int.toNat)).map (fun x : Nat => (x : Int))).map (Value.int .i64) := by
  rw [List.map_map]
  unfold ovals
  apply Plain.list_ext (.bool true)
  · rw [List.length_map, List.length_map, List.length_range, Plain.vals_len, List.length_map]
  · intro j hj
    simp only [List.length_map, List.length_range] at hj
    have e := Plain.vals_getD ws bl j hj
    have h1 : j < (Plain.vals (Plain.bitOf bl) 0 (ws.map Int.toNat)).length := by rw [Plain.vals_len, List.length_map]; exact hj
    rw [List.getD_eq_getElem?_getD, List.getElem?_eq_getElem h1] at e
    simp only [Option.getD_some] at e
    simp [hj, List.getD_eq_getElem?_getD, List.getElem?_eq_getElem h1, e]

set_option maxHeartbeats 4000000 in
set_option maxRecDepth 100000 in
theorem runpack_some (b off cap bb ob cb : Nat) (ws : List Int) (bl : List Nat) (hbl : ∀ x ∈ bl, x < 256) (w : World)
    (h : ∀ j, j < ws.length → w.cell? ⟨b, off + j, none⟩ = some (.int .i64 (ws.getD j 0))) (hb : 0 < ws.length → b < w.heap.size)
    (h2 : ∀ j, j < bl.length → w.cell? ⟨bb, ob + j, none⟩ = some (.int .u8 (bl.getD j 0 : Nat))) (hb2 : 0 < bl.length → bb < w.heap.size)
    (hz : Plain.szE ws = 0) (hl : bl.length = Plain.szN ws) :
    Calls Try.prog 32 #[.slice (some ⟨b, off, none⟩) ws.length cap, .slice (some ⟨bb, ob, none⟩) bl.length cb] w fun e w' => ∃ r, e = .returned (.tuple #[r, .int .i64 (Plain.unpackE ws bl : Nat)]) ∧
      Seg w' r (Plain.unpackI ws bl) ∧ Lies w'.heap.size r ∧ Below w.heap.size w w' := by
  obtain ⟨i0, hi, hz0, hz1, hz2⟩ := info_parts Try.infoInt
  obtain ⟨j0, ji, jz0, jz1, jz2⟩ := info_parts Try.infoField
  have H := hid h
  have H2 := hid h2
  have HBL := hid hbl
  have HB2 := hid hb2
  have hsz := Plain.szE_zero _ hz
  have hlen : ws.length ≤ 40 := hsz.1
  have HA := hid hsz.2.1
  have HN := hid hsz.2.2.1
  have HT := hid hsz.2.2.2
  have HZ := hid hz
  have HL := hid hl
  have hn300 := Plain.szN_le ws
  have hbl300 : bl.length ≤ 300 := by omega
  clear h hz hsz h2 hl hbl hb2 hn300
  go_enter Try.func32, Try.ntmps32
  go_wp2_with fail
  refine (rsize_any _ ws (by omega) _ (.inr ⟨b, off, cap, rfl, H.out⟩)).mono ?_
  rintro e wx ⟨rfl, hx⟩
  have hy := hx.symm
  clear hx
  subst hy
  rw [HZ.out, ← HL.out]
  go_wp2
  go_loopw [8, 9, 10, 31] (fun o f a i wr => ∃ k : Nat, k ≤ ws.length ∧ i = .int .i64 k ∧ a = .int .i64 (Plain.bitsN (ws.take k) : Nat) ∧
      wr.ownsRow w.heap.size 3 1 o k (ovals ws bl k) ∧ wr.ownsRow w.heap.size 56 2 f k (lvals (Plain.flds ws bl k)) ∧ Below w.heap.size w wr)
    (fun _ _ _ i _ => ws.length - (intOf i).toNat)
  case atStart => exact ⟨0, Nat.zero_le _, rfl, rfl, World.ownsRow_nil _ _ _ _, World.ownsRow_nil _ _ _ _, Below.refl _ _⟩
  case round =>
    obtain ⟨wo, hwo⟩ : ∃ wo, wo = wr := ⟨_, rfl⟩
    subst hwo
    obtain ⟨k, hk, rfl, rfl, hown, fown, hbel⟩ := hrel
    have HC2 := hid (fun j (hj : j < bl.length) => (hbel.cell (p := ⟨bb, ob + j, none⟩) (HB2.out (by omega))).trans (H2.out j hj))
    have hge := hbel.size
    have HOWN := hid hown
    have FOWN := hid fown
    have HBEL := hid hbel
    clear hown fown
    by_cases hlt : k < ws.length
    · have g := (hbel.cell (p := ⟨b, off + k, none⟩) (hb (by omega))).trans (H.out k hlt)
      have hok := Plain.un_okw ws k hlt HA.out
      have hbit := Plain.un_bits ws k hlt
      have hbs := Plain.bitsN_take ws k hlt
      have hva : Plain.valAt ws bl k = Plain.num (Plain.bitOf bl) (Plain.bitsN (ws.take k)) (ws.getD k 0).toNat := rfl
      have hlt' : (k : Int) < (ws.length : Int) := by omega
      clear hbel
      generalize hxx : ws.getD k 0 = x at g hok hbit hbs hva
      obtain ⟨xn, rfl⟩ := Int.eq_ofNat_of_zero_le (show 0 ≤ x by omega)
      rw [Int.toNat_natCast] at hbit hbs hva
      have HXX := hid hxx
      have HBS := hid hbs
      clear hbs hxx
      have hfit : Plain.bitsN (ws.take k) + xn ≤ 8 * bl.length := by have := HN.out; have := HL.out; omega
      clear hbit
      generalize ha : Plain.bitsN (ws.take k) = a at hfit hva
      have HAA := hid ha
      have HVA := hid hva
      clear ha hva
      have hxn : xn ≤ 60 := by omega
      clear hok
      go_wp2
      go_loopw [10, 13, 14] (fun t v j wi => ∃ i q : Nat, i ≤ xn ∧ j = .int .i64 i ∧ t = .int .i64 ((a + i : Nat) : Int) ∧ v = .int .i64 (Plain.num (Plain.bitOf bl) a i : Nat) ∧ wi = wo.drewN q) (fun _ _ j _ => xn - (intOf j).toNat)
      case atStart => exact ⟨0, 0, Nat.zero_le _, rfl, rfl, rfl, rfl⟩
      case round =>
        obtain ⟨i, q, hii, rfl, rfl, rfl, hw0⟩ := hrel
        have HW := hid hw0
        clear hw0
        by_cases hlt2 : i < xn
        · obtain ⟨p, hp⟩ : ∃ p, p = a + i := ⟨_, rfl⟩
          rw [← hp]
          have hX := Plain.num_lt (Plain.bitOf bl) (Plain.bitOf_lt bl) a i
          have hX2 := Plain.pow60 i (by omega)
          have hX3 : Plain.num (Plain.bitOf bl) a i < 1152921504606846976 := by omega
          have hst : Plain.num (Plain.bitOf bl) a (i + 1) = 2 * Plain.num (Plain.bitOf bl) a i + Plain.bitOf bl (a + i) := rfl
          rw [← hp] at hst
          clear hX hX2
          have hp2 : p / 8 < bl.length := by omega
          have hc : wr.cell? ⟨bb, ob + p / 8, none⟩ = some (.int .u8 (bl.getD (p / 8) 0 : Nat)) := by rw [HW.out]; simpa using HC2.out (p / 8) hp2
          have hx := HBL.out (bl.getD (p / 8) 0) (by rw [List.getD_eq_getElem?_getD, List.getElem?_eq_getElem hp2]; exact List.getElem_mem hp2)
          have hy : Plain.bitOf bl p = bl.getD (p / 8) 0 / 2 ^ (7 - p % 8) % 2 := rfl
          generalize bl.getD (p / 8) 0 = x at hc hx hy
          obtain ⟨m, hm⟩ : ∃ m, m = p / 8 := ⟨_, rfl⟩
          rw [← hm] at hc hp2
          generalize hXX : Plain.num (Plain.bitOf bl) a i = X at hX3 hst
          obtain ⟨r, hr⟩ : ∃ r, r = p % 8 := ⟨_, rfl⟩
          obtain ⟨d, hd⟩ : ∃ d, d = 7 - r := ⟨_, rfl⟩
          obtain ⟨P, hP⟩ : ∃ P, P = 2 ^ d := ⟨_, rfl⟩
          obtain ⟨t, ht⟩ : ∃ t, t = x / P := ⟨_, rfl⟩
          obtain ⟨y, hy1⟩ : ∃ y, y = t % 2 := ⟨_, rfl⟩
          obtain ⟨Z, hZ⟩ : ∃ Z, Z = 2 * X + y := ⟨_, rfl⟩
          rw [← hr, ← hd, ← hP, ← ht, ← hy1] at hy
          rw [hy, ← hZ] at hst
          have hr8 : r < 8 := by omega
          have hPp := Plain.pow60 d (by omega)
          have hP0 : 0 < P := by rw [hP]; exact Nat.two_pow_pos d
          rw [← hP] at hPp
          have hPi : ((2 : Int) ^ d) = (P : Int) := by rw [hP]; simp
          have hty : t ≤ x := by rw [ht]; exact Nat.div_le_self _ _
          have q1 : IntKind.i64.wrap (2 * (X : Int)) = ((2 * X : Nat) : Int) := by rw [← Plain.wrap_nat (2 * X) (by omega)]; simp
          have q2 : (p : Int) / 8 = (m : Int) := by omega
          have q3 : IntKind.i64.wrap (m : Int) = (m : Int) := Plain.wrap_nat m (by omega)
          have q4 : (m : Int) < (bl.length : Int) := by omega
          have q5 : IntKind.i64.wrap (x : Int) = (x : Int) := Plain.wrap_nat x (by omega)
          have q6 : (p : Int) % 8 = (r : Int) := by omega
          have q7 : IntKind.i64.wrap (r : Int) = (r : Int) := Plain.wrap_nat r (by omega)
          have q8 : IntKind.i64.wrap (7 - (r : Int)) = (d : Int) := by rw [← Plain.wrap_nat d (by omega), show (7 : Int) - (r : Int) = (d : Int) by omega]
          have q9 : IntKind.i64.wrap ((2 : Int) ^ d) = (P : Int) := by rw [hPi]; exact Plain.wrap_nat P (by omega)
          have q10 : ((x : Int)).tdiv (P : Int) = (t : Int) := by rw [Int.tdiv_eq_ediv_of_nonneg (by omega), ht]; simp
          have q11 : IntKind.i64.wrap (t : Int) = (t : Int) := Plain.wrap_nat t (by omega)
          have q12 : ((t : Int)).tmod 2 = (y : Int) := by rw [Int.tmod_eq_emod_of_nonneg (by omega), hy1]; simp
          have q13 : IntKind.i64.wrap (y : Int) = (y : Int) := Plain.wrap_nat y (by omega)
          have q14 : ¬ P = 0 := by omega
          have q15 : (P : Int) ≠ 0 := by omega
          have hd60 : d ≤ 60 := by omega
          have HP := hid hp
          have HX := hid hXX
          have HST := hid hst
          have HZZ := hid hZ
          have hy2 : y < 2 := by omega
          clear hp hXX hst hZ hm hr hd hP ht hy1 hPi hPp hP0 hty hy hr8
          go_wp2
          go_quiet (fail)
          go_wp2
          go_roundw
          case rel => exact ⟨i + 1, q + nq, by omega, by go_num, by have := HP.out; go_num, by rw [HST.out, HZZ.out]; go_num, by rw [HW.out, drewN_add]⟩
          case measure => simp [intOf]; omega
        · have ei : i = xn := by omega
          subst ei
          rw [← HVA.out]
          have hX : Plain.valAt ws bl k < 1152921504606846977 := by
            have h1 := Plain.num_lt (Plain.bitOf bl) (Plain.bitOf_lt bl) a i
            have h2 := Plain.pow60 i hxn
            rw [HVA.out]; omega
          have hown : wr.ownsRow w.heap.size 3 1 u8 k (ovals ws bl k) := owns_heap HOWN.out (by rw [HW.out]; rfl)
          have fown : wr.ownsRow w.heap.size 56 2 u9 k (lvals (Plain.flds ws bl k)) := owns_heap FOWN.out (by rw [HW.out]; rfl)
          have hbel : Below w.heap.size w wr := by rw [HW.out]; exact below_drewN HBEL.out q
          have hge2 := hbel.size
          generalize hXv : Plain.valAt ws bl k = X at hX
          have HXV := hid hXv
          clear hXv
          go_wp2_with (first
            | (at_builtin; refine wpList_append_own _ rfl _ _ 22 rfl w.heap.size 3 i0 (.int .i64 0) 1 8 Try.underlying22 hi hz0 hz1 hz2 rfl (by decide) _ _ _ rfl (hown.alloc _) ⟨wr.heap.size, 0, none⟩ 1 1 [.int .i64 X] rfl rfl ?c1 ?c2 ?c3 ?c4 ?c5 ?_)
            | go_in)
          case c1 =>
            intro j u hj
            match j, hj with
            | 0, hj => simp at hj; subst hj; simp [Addr.add]
          case c2 => first | rfl | (intro u hu; simp at hu; subst hu; rfl)
          case c3 => unfold maxLen; omega
          case c4 => omega
          case c5 => simp; omega
          intro v1 w1 hown' hgrow _
          have fown1 := (fown.alloc (.cells #[.int .i64 X] 3)).kept hgrow (owns_apart fown hown (by decide))
          have HO1 := hid (show w1.ownsRow w.heap.size 3 1 v1 (k + 1) (ovals ws bl (k + 1)) by rw [ovals_succ, HXV.out]; exact hown')
          have hbel1 := below_app2 (hbel.alloc hge2 (.cells #[.int .i64 X] 3)) hgrow hown
          have hge3 := hbel1.size
          clear hown' hgrow hown fown hbel
          go_wp2_with (first
            | (at_builtin; refine wpList_append_own _ rfl _ _ 54 rfl w.heap.size 56 j0 (.agg #[.int .i64 0, .int .i64 0]) 2 16 Try.underlying54 ji jz0 jz1 jz2 rfl (by decide) _ _ _ rfl (fown1.alloc _) ⟨w1.heap.size, 0, none⟩ 1 1 [.int .i64 i, .int .i64 X] rfl rfl ?e1 ?e2 ?e3 ?e4 ?e5 ?_)
            | go_in)
          case e1 => exact World.news_of_block (cs := #[.int .i64 i, .int .i64 X]) (t := 56) (fr := (0, 0)) (heap_alloc_new w1 _)
          case e2 => intro u hu; simp at hu; rcases hu with rfl | rfl <;> rfl
          case e3 => unfold maxLen; omega
          case e4 => omega
          case e5 => simp; omega
          intro v2 w2 fown' fgrow _
          have R := hid (show w2.ownsRow w.heap.size 3 1 v1 (k + 1) (ovals ws bl (k + 1)) ∧ w2.ownsRow w.heap.size 56 2 v2 (k + 1) (lvals (Plain.flds ws bl (k + 1))) ∧ Below w.heap.size w w2 from
            ⟨(HO1.out.alloc _).kept fgrow (owns_apart HO1.out fown1 (by decide)), by rw [Plain.flds_succ, lvals_snoc, HXX.out, HXV.out]; exact fown', below_app2 (hbel1.alloc hge3 _) fgrow fown1⟩)
          clear fown' fgrow fown1 hbel1
          go_wp2
          go_roundw
          case rel => first | exact ⟨k + 1, by omega, by go_num, by rw [HBS.out, HAA.out]; go_num, R.out.1, R.out.2.1, R.out.2.2⟩ | ((repeat apply Exists.intro); exact ⟨⟨k + 1, by omega, by go_num, by rw [HBS.out, HAA.out]; go_num, R.out.1, R.out.2.1, R.out.2.2⟩, rfl⟩)
          case measure => simp [intOf]; omega
    · have ek : k = ws.length := by omega
      subst ek
      have HAG := hid (Plain.again ws bl HZ.out HL.out HBL.out)
      have HLT := hid (Plain.pack_lt (Plain.flds ws bl ws.length))
      have HX0 := hid (Plain.un_left ws bl HZ.out HL.out)
      have HX1 := hid (Plain.un_ok ws bl HZ.out HL.out)
      have HSF := hid (segF_of_owns (l := Plain.flds ws bl ws.length) (by rw [Plain.flds_len]; exact FOWN.out))
      have HLF := hid (lies_owns2 FOWN.out)
      have HBL2 := hid (show SegB wo (.slice (some ⟨bb, ob, none⟩) bl.length cb) bl from .inr ⟨bb, ob, cb, rfl, HC2.out⟩)
      have HLB := hid (show Lies wo.heap.size (.slice (some ⟨bb, ob, none⟩) bl.length cb) from fun p n c e hp => by injection e with e1 e2 _; injection e1 with e1; subst e1; have := HB2.out (by omega); show bb < _; omega)
      clear hbel
      go_wp2_with fail
      refine (rpack_any _ (Plain.flds ws bl ws.length) (by rw [Plain.flds_len]; omega) _ HSF.out HLF.out).mono ?_
      rintro e w1 ⟨u, rfl, s1, l1, b1⟩
      have S1 := hid s1
      have B1 := hid b1
      clear s1 l1 b1
      rw [HAG.out.1]
      go_wp2_with fail
      refine (rsame_any _ _ _ bl HLT.out HBL.out _ S1.out (SegB.below HBL2.out B1.out HLB.out)).mono ?_
      rintro e wx ⟨rfl, hx⟩
      have hy := hx.symm
      clear hx
      subst hy
      have HBE := hid (Below.trans HBEL.out (Below.mono B1.out hge))
      by_cases hX : Plain.packB (Plain.flds ws bl ws.length) = bl
      · rw [decide_eq_true hX]
        have HF := hid (HX1.out (HAG.out.2.1 hX))
        clear hX
        go_wp2
        go_ret2
        refine ⟨_, by rw [HF.out.1]; rfl, ?_, (lies_owns2 HOWN.out).mono (Below.size B1.out), HBE.out⟩
        rw [HF.out.2]
        refine (seg_of_owns HOWN.out (by rw [List.length_map, Plain.vals_len, List.length_map]) (o_map ws bl)).below B1.out (lies_owns2 HOWN.out)
      · rw [decide_eq_false hX]
        have HF := hid (HX0.out (fun e => hX (HAG.out.2.2 e)))
        clear hX
        go_wp2
        go_ret2
        exact ⟨_, by rw [HF.out.1]; rfl, by rw [HF.out.2]; exact Seg.nil _, lies_nil _ _ _, HBE.out⟩

set_option maxHeartbeats 1000000 in
theorem runpack_nil (p p2 : Option Addr) (c c2 : Nat) (w : World) :
    Calls Try.prog 32 #[.slice p 0 c, .slice p2 0 c2] w fun e w' => e = .returned (.tuple #[.slice none 0 0, .int .i64 0]) ∧ Below w.heap.size w w' := by
  go_enter Try.func32, Try.ntmps32
  go_wp2_with fail
  refine (rsize_nil p c _).mono ?_
  rintro e wx ⟨rfl, hx⟩
  have hy := hx.symm
  clear hx
  subst hy
  rw [show Plain.szN [] = 0 from rfl, show Plain.szE [] = 0 from rfl]
  go_wp2
  refine wp_loop_rounds 1 ?_
  rw [rounds_succ]
  go_wp2_with fail
  refine (rpack_nil none 0 _).mono ?_
  rintro e wx ⟨rfl, hx⟩
  have hy := hx.symm
  clear hx
  subst hy
  go_wp2_with fail
  refine (rsame_any _ _ [] [] (fun x hx => by simp at hx) (fun x hx => by simp at hx) _ (SegB.nil _) (.inl ⟨rfl, _, _, rfl⟩)).mono ?_
  rintro e wx ⟨rfl, hx⟩
  have hy := hx.symm
  clear hx
  subst hy
  rw [decide_eq_true rfl]
  go_wp2
  go_ret2
  exact ⟨rfl, Below.refl _ _⟩

/-- The document's answer to Unpack at whatever widths and bytes. -/
theorem runpack_any (v u : Value) (ws : List Int) (bl : List Nat) (hbl : ∀ x ∈ bl, x < 256) (hm : ws.length ≤ 9223372036854775807) (w : World)
    (h : Seg w v ws) (hv : Lies w.heap.size v) (h2 : SegB w u bl) (hu : Lies w.heap.size u) :
    Calls Try.prog 32 #[v, u] w fun e w' => ∃ r, e = .returned (.tuple #[r, .int .i64 (Plain.unpackE ws bl : Nat)]) ∧ Seg w' r (Plain.unpackI ws bl) ∧ Lies w'.heap.size r ∧ Below w.heap.size w w' := by
  by_cases hz : Plain.szE ws = 0
  · by_cases hl : bl.length = Plain.szN ws
    · rcases h with ⟨rfl, p, c, rfl⟩ | ⟨b, o, c, rfl, g⟩
      · obtain ⟨p2, c2, rfl⟩ := segB_form h2
        have hl0 : bl = [] := List.length_eq_zero_iff.1 hl
        subst hl0
        refine (runpack_nil p p2 c c2 w).mono ?_
        rintro e w' ⟨rfl, hb⟩
        exact ⟨_, rfl, .inl ⟨rfl, _, _, rfl⟩, lies_nil _ _ _, hb⟩
      · rcases h2 with ⟨rfl, p2, c2, rfl⟩ | ⟨b2, o2, c2, rfl, g2⟩
        · have hw0 : ws = [] := Plain.sz_empty ws hz hl.symm
          subst hw0
          refine (runpack_nil _ p2 c c2 w).mono ?_
          rintro e w' ⟨rfl, hb⟩
          exact ⟨_, rfl, .inl ⟨rfl, _, _, rfl⟩, lies_nil _ _ _, hb⟩
        · exact runpack_some b o c b2 o2 c2 ws bl hbl w g (fun hp => hv _ _ _ rfl hp) g2 (fun hp => hu _ _ _ rfl hp) hz hl
    · obtain ⟨p2, c2, rfl⟩ := segB_form h2
      refine (runpack_len v p2 c2 ws bl hm w h hz hl).mono ?_
      rintro e w' ⟨rfl, rfl⟩
      exact ⟨_, rfl, by rw [(Plain.un_len ws bl hz hl).2]; exact Seg.nil _, lies_nil _ _ _, Below.refl _ _⟩
  · refine (runpack_bad v u ws bl hm w h hz).mono ?_
    rintro e w' ⟨rfl, rfl⟩
    exact ⟨_, rfl, by rw [(Plain.un_bad ws bl hz).2]; exact Seg.nil _, lies_nil _ _ _, Below.refl _ _⟩
end Go.Proofs.Ytkmnofmhjoehial
