/-
  A contract of the document's answer to May.
-/
import Derived.Test.YtkmnofmhjoehialKa
namespace Go.Proofs.Ytkmnofmhjoehial
open Go.RowKit

namespace Plain
/-- The four numbers of an entry. -/
def nth (e : En) (j : Nat) : Int := [e.key, e.value, e.time, e.who].getD j 0
/-- The first k entries are as they may be. -/
def OkTo (l : List En) (k : Nat) : Prop := ∀ j, j < k → mayB (en l j) = true ∧ (0 < j → (en l (j - 1)).key < (en l j).key)
theorem ok_all {l : List En} (h8 : l.length ≤ 8) (h : OkTo l l.length) : mayL l = true := by
  unfold mayL
  have h1 : l.all mayB = true := by
    rw [List.all_eq_true]
    intro x hx
    obtain ⟨j, hj, rfl⟩ := List.getElem_of_mem hx
    have := (h j hj).1
    rwa [en_lt hj] at this
  have h2 : ascB l = true := (asc_at l).2 fun i hi => by
    have := (h (i + 1) hi).2 (by omega)
    simpa using this
  rw [h1, h2, decide_eq_true h8]
  rfl
theorem no_may {l : List En} {k : Nat} (hk : k < l.length) (h : mayB (en l k) = false) : mayL l = false := by
  unfold mayL
  have h1 : l.all mayB = false := by
    rw [List.all_eq_false]
    exact ⟨en l k, en_mem hk, by simp [h]⟩
  rw [h1]
  simp
theorem no_asc {l : List En} {k : Nat} (hk : k + 1 < l.length) (h : ¬ (en l k).key < (en l (k + 1)).key) : mayL l = false := by
  unfold mayL
  rw [asc_no hk h]
  simp
theorem nth_bad {e : En} {j : Nat} (hj : j < 4) (h : nth e j < 0 ∨ 1048576 < nth e j) : mayB e = false := by
  unfold mayB
  simp only [decide_eq_false_iff_not]
  match j, hj with
  | 0, _ => have : nth e 0 = e.key := rfl
            omega
  | 1, _ => have : nth e 1 = e.value := rfl
            omega
  | 2, _ => have : nth e 2 = e.time := rfl
            omega
  | 3, _ => have : nth e 3 = e.who := rfl
            omega
end Plain

theorem four_cell (w : World) (e : Plain.En) (j : Nat) (hj : j < 4) :
    (w.alloc (.cells #[.int .i64 e.key, .int .i64 e.value, .int .i64 e.time, .int .i64 e.who] 3)).cell? ⟨w.heap.size, j, none⟩ = some (.int .i64 (Plain.nth e j)) := by
  match j, hj with
  | 0, _ => simp [Plain.nth]
  | 1, _ => simp [Plain.nth]
  | 2, _ => simp [Plain.nth]
  | 3, _ => simp [Plain.nth]
theorem box_cell (w : World) (e : Plain.En) : CellN (w.alloc (boxE e)) w.heap.size 0 e := ⟨by simp, by simp, by simp, by simp, by simp⟩

set_option maxHeartbeats 4000000 in
set_option maxRecDepth 100000 in
theorem rmay_some (l : List Plain.En) (b off c : Nat) (h8 : l.length ≤ 8) (h0 : 0 < l.length) (w : World) (hb : b < w.heap.size) (hc : CellsN w b off l) :
    Calls Try.prog 37 #[.slice (some ⟨b, off, none⟩) l.length c] w fun e w' => e = .returned (.bool (Plain.mayL l)) ∧ Below w.heap.size w w' := by
  have HC := hid hc
  clear hc
  have h8' : ¬ 8 < (l.length : Int) := by omega
  go_enter Try.func37, Try.ntmps37
  go_wp2
  go_loopw [12] (fun i wx => ∃ k : Nat, k ≤ l.length ∧ i = .int .i64 k ∧ Below w.heap.size w wx ∧ Plain.OkTo l k) (fun i _ => l.length - (intOf i).toNat)
  case atStart => exact ⟨0, Nat.zero_le _, rfl, Below.refl _ _, fun j hj => absurd hj (Nat.not_lt_zero _)⟩
  case round =>
    obtain ⟨k, hk, rfl, hbel, hok⟩ := hrel
    have HB := hid hbel
    have HO := hid hok
    clear hbel hok
    by_cases hlt : k < l.length
    · have hlt' : (k : Int) < (l.length : Int) := by omega
      obtain ⟨c0, c1, c2, c3, c4⟩ := (HC.out k hlt).below HB.out hb
      have HN := hid (fun h => Plain.no_may (l := l) hlt h)
      generalize hy : Plain.en l k = y at c0 c1 c2 c3 c4 HN
      have HY := hid hy
      clear hy
      go_wp2
      obtain ⟨W, hW⟩ : ∃ W, W = (wr.alloc (boxE y)).alloc (.cells #[.int .i64 y.key, .int .i64 y.value, .int .i64 y.time, .int .i64 y.who] 3) := ⟨_, rfl⟩
      rw [← hW]
      have d0 := (box_cell wr y).below (B := wr.heap.size + 1) (w' := W) (by rw [hW]; exact (Below.refl _ _).alloc (by simp) _) (by omega)
      obtain ⟨d0, d1, d2, d3, d4⟩ := d0
      simp only [Nat.zero_add] at d1 d2 d3 d4
      have HF := hid (show ∀ j, j < 4 → W.cell? ⟨wr.heap.size + 1, j, none⟩ = some (.int .i64 (Plain.nth y j)) from fun j hj => by
        have := four_cell (wr.alloc (boxE y)) y j hj
        rw [← hW] at this
        simpa using this)
      have HBW := hid (show Below w.heap.size w W by rw [hW]; exact (HB.out.alloc HB.out.size _).alloc (by simpa using Nat.le_succ_of_le HB.out.size) _)
      clear hW c0 c1 c2 c3 c4
      go_loopw [27] (fun i wx => ∃ j : Nat, j ≤ 4 ∧ i = .int .i64 j ∧ wx = W ∧ ∀ t, t < j → 0 ≤ Plain.nth y t ∧ Plain.nth y t ≤ 1048576) (fun i _ => 4 - (intOf i).toNat)
      case atStart => exact ⟨0, by omega, rfl, rfl, fun t ht => by omega⟩
      case round =>
        obtain ⟨j, hj, rfl, hw, hn⟩ := hrel
        subst hw
        have HT := hid hn
        clear hn
        by_cases hj4 : j < 4
        · have hj4' : (j : Int) < 4 := by omega
          have f1 := HF.out j hj4
          have hbad := hid (Plain.nth_bad (e := y) hj4)
          generalize hz : Plain.nth y j = z at f1 hbad
          have HZ := hid hz
          clear hz
          by_cases hz1 : z < 0
          · go_wp2
            go_ret
            exact ⟨by rw [HN.out (hbad.out (.inl hz1))]; rfl, HBW.out⟩
          · by_cases hz2 : 1048576 < z
            · go_wp2
              go_ret
              exact ⟨by rw [HN.out (hbad.out (.inr hz2))]; rfl, HBW.out⟩
            · go_wp2
              go_roundw
              case rel =>
                refine ⟨j + 1, by omega, by go_num, by first | rfl | trivial, fun t ht => ?_⟩
                by_cases e : t = j
                · subst e; rw [HZ.out]; omega
                · exact HT.out t (by omega)
              case measure => simp [intOf]; omega
        · have ej : j = 4 := by omega
          subst ej
          have k0 : 0 ≤ y.key ∧ y.key ≤ 1048576 := HT.out 0 (by omega)
          have k1 : 0 ≤ y.value ∧ y.value ≤ 1048576 := HT.out 1 (by omega)
          have k2 : 0 ≤ y.time ∧ y.time ≤ 1048576 := HT.out 2 (by omega)
          have k3 : 0 ≤ y.who ∧ y.who ≤ 1048576 := HT.out 3 (by omega)
          have HM := hid (show (¬ 7 < y.who ∧ (y.gone = true → y.value = 0)) → Plain.mayB y = true from fun h => by
            unfold Plain.mayB; simp only [decide_eq_true_eq]; exact ⟨k0, k1, k2, ⟨k3.1, by omega⟩, h.2⟩)
          have HM1 := hid (show 7 < y.who → Plain.mayB y = false from fun h => by
            unfold Plain.mayB; simp only [decide_eq_false_iff_not]; omega)
          have HM2 := hid (show y.gone = true → y.value ≠ 0 → Plain.mayB y = false from fun h1 h2 => by
            unfold Plain.mayB; simp only [decide_eq_false_iff_not]; exact fun h => h2 (h.2.2.2.2 h1))
          clear k0 k1 k2 k3 HT HF
          obtain ⟨yk, yv, yt, yo, yg⟩ := y
          dsimp only at d0 d1 d2 d3 d4 HM HM1 HM2
          by_cases ho : 7 < yo
          · go_wp2
            go_quiet (fail)
            go_wp2
            go_ret
            exact ⟨by rw [HN.out (HM1.out ho)]; rfl, below_drewN HBW.out _⟩
          · have hod : decide (7 < yo) = false := decide_eq_false ho
            by_cases hg : yg = true ∧ yv ≠ 0
            · obtain ⟨rfl, hv⟩ := hg
              have bv : (yv != 0) = true := bne_iff_ne.2 hv
              go_wp2
              go_quiet (fail)
              go_wp2
              go_ret
              exact ⟨by rw [HN.out (HM2.out (by first | rfl | trivial) hv)]; rfl, below_drewN HBW.out _⟩
            · have HMY := hid (HM.out ⟨ho, fun h => Classical.byContradiction fun hv => hg ⟨h, hv⟩⟩)
              have hkk : k = 0 ∨ ∃ m, k = m + 1 := by cases k <;> simp
              have hyg : yg = false ∨ (yg = true ∧ yv = 0) := by
                cases yg with
                | false => exact .inl rfl
                | true => exact .inr ⟨rfl, Classical.byContradiction fun hv => hg ⟨rfl, hv⟩⟩
              clear hg HM HM1 HM2
              rcases hkk with rfl | ⟨m, rfl⟩
              · rcases hyg with rfl | ⟨rfl, rfl⟩
                all_goals
                  go_wp2
                  go_quiet (fail)
                  go_wp2
                  go_roundw
                  case rel => exact ⟨1, by omega, by go_num, below_drewN HBW.out _, fun j hj => by
                    obtain rfl : j = 0 := by omega
                    exact ⟨by rw [HY.out]; exact HMY.out, fun h => by omega⟩⟩
                  case measure => simp [intOf]; omega
              · have g1 := ((HC.out m (by omega)).below HBW.out hb).c0
                have HA := hid (fun h => Plain.no_asc (l := l) (k := m) hlt h)
                rw [HY.out] at HA
                generalize hx : (Plain.en l m).key = x at g1 HA
                have HX := hid hx
                clear hx
                have e1 : (((m + 1 : Nat) : Int)) = (m : Int) + 1 := by omega
                rw [e1] at hlt' ⊢
                clear e1
                have hm0 : decide ((0 : Int) < (m : Int) + 1) = true := decide_eq_true (by omega)
                have hm1 : (m : Int) < (l.length : Int) := by omega
                by_cases hxy : x < yk
                · have hd : decide (yk ≤ x) = false := decide_eq_false (by omega)
                  rcases hyg with rfl | ⟨rfl, rfl⟩
                  all_goals
                    go_wp2
                    go_quiet (fail)
                    go_wp2
                    go_roundw
                    case rel => exact ⟨m + 2, by omega, by go_num, below_drewN HBW.out _, fun j hj => by
                      by_cases e : j = m + 1
                      · subst e
                        exact ⟨by rw [HY.out]; exact HMY.out, fun _ => by rw [HY.out]; show (Plain.en l m).key < _; rw [HX.out]; exact hxy⟩
                      · exact HO.out j (by omega)⟩
                    case measure => simp [intOf]; omega
                · have hd : decide (yk ≤ x) = true := decide_eq_true (by omega)
                  rcases hyg with rfl | ⟨rfl, rfl⟩
                  all_goals
                    go_wp2
                    go_quiet (fail)
                    go_wp2
                    go_ret
                    exact ⟨by rw [HA.out hxy]; rfl, below_drewN HBW.out _⟩
    · have ek : k = l.length := by omega
      subst ek
      have HE := hid (Plain.ok_all h8 HO.out)
      go_wp2
      go_ret
      exact ⟨by rw [HE.out]; rfl, HB.out⟩

set_option maxHeartbeats 1000000 in
theorem rmay_nil (p : Option Addr) (c : Nat) (w : World) :
    Calls Try.prog 37 #[.slice p 0 c] w fun e w' => e = .returned (.bool true) ∧ w' = w := by
  go_enter Try.func37, Try.ntmps37
  go_wp2
  refine wp_loop_rounds 1 ?_
  rw [rounds_succ]
  go_wp2
  go_ret
  exact ⟨rfl, rfl⟩
set_option maxHeartbeats 1000000 in
theorem rmay_long (p : Option Addr) (n c : Nat) (h : 8 < n) (w : World) :
    Calls Try.prog 37 #[.slice p n c] w fun e w' => e = .returned (.bool false) ∧ w' = w := by
  have h8 : (8 : Int) < (n : Int) := by omega
  go_enter Try.func37, Try.ntmps37
  go_wp2
  go_ret
  exact ⟨rfl, rfl⟩

theorem rmay_any (v : Value) (l : List Plain.En) (w : World) (hs : SegN w v l) (hy : Lies w.heap.size v) :
    Calls Try.prog 37 #[v] w fun e w' => e = .returned (.bool (Plain.mayL l)) ∧ Below w.heap.size w w' := by
  by_cases h8 : l.length ≤ 8
  · by_cases h0 : 0 < l.length
    · obtain ⟨b, off, c, rfl, _, hc⟩ := hs.some h0
      exact rmay_some l b off c h8 h0 w (hy ⟨b, off, none⟩ _ _ rfl h0) hc
    · obtain rfl : l = [] := List.length_eq_zero_iff.1 (by omega)
      obtain ⟨p, c, rfl, _⟩ := hs.form
      exact (rmay_nil p c w).mono fun e w' ⟨h1, h2⟩ => ⟨by rw [h1]; rfl, by rw [h2]; exact Below.refl _ _⟩
  · obtain ⟨p, c, rfl, _⟩ := hs.form
    rw [Plain.may_long (by omega)]
    exact (rmay_long p l.length c (by omega) w).mono fun e w' ⟨h1, h2⟩ => ⟨h1, by rw [h2]; exact Below.refl _ _⟩
end Go.Proofs.Ytkmnofmhjoehial
