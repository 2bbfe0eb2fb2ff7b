/-
  A contract of the document's answer to May.
-/
import Derived.Test.YtcdlgpickjiikagTj
namespace Go.Proofs.Ytcdlgpickjiikag
open Go.RowKit Go.Shelf

namespace Plain
/-- The rows, and behind them what was used. -/
def rowOf (t : Ta) (i : Nat) : List Int := if i < t.used.length then rw t i else t.used
theorem mayT_no {t : Ta} (i : Nat) (hm : t.moves.length = t.used.length) (h : badR t.used.length (rowOf t i) = true) : mayT t = false := by
  unfold rowOf at h
  unfold mayT
  by_cases c : i < t.used.length
  · rw [if_pos c] at h
    have : t.moves.any (badR t.used.length) = true := List.any_eq_true.2 ⟨rw t i, by unfold rw; rw [getD_lt _ _ _ (by omega)]; exact List.getElem_mem _, h⟩
    rw [this]; simp
  · rw [if_neg c] at h
    rw [h]; simp
theorem mayT_yes {t : Ta} (h1 : 1 ≤ t.used.length) (h8 : t.used.length ≤ 8) (hm : t.moves.length = t.used.length) (h : ∀ i, i < t.used.length + 1 → badR t.used.length (rowOf t i) = false) : mayT t = true := by
  unfold mayT
  have e1 : badR t.used.length t.used = false := by
    have := h t.used.length (by omega)
    unfold rowOf at this
    rwa [if_neg (by omega)] at this
  have e2 : t.moves.any (badR t.used.length) = false := List.any_eq_false.2 fun r hr => by
    obtain ⟨i, hi, rfl⟩ := List.getElem_of_mem hr
    have := h i (by omega)
    unfold rowOf at this
    rw [if_pos (by omega)] at this
    unfold rw at this
    rw [getD_lt _ _ _ hi] at this
    rw [this]; simp
  rw [e1, e2, decide_eq_true ⟨h1, h8, hm⟩]
  rfl
theorem badR_len {n : Nat} {r : List Int} (h : r.length ≠ n) : badR n r = true := by
  unfold badR
  rw [bne_iff_ne.2 h]
  rfl
theorem badR_at {n : Nat} {r : List Int} (j : Nat) (hj : j < r.length) (h : badN (r.getD j 0) = true) : badR n r = true := by
  unfold badR
  rw [List.any_eq_true.2 ⟨r.getD j 0, by rw [getD_lt _ _ _ hj]; exact List.getElem_mem _, h⟩]
  simp
theorem badR_none {n : Nat} {r : List Int} (hn : r.length = n) (h : ∀ j, j < n → badN (r.getD j 0) = false) : badR n r = false := badR_no.2 ⟨hn, fun j hj => badN_no.1 (h j hj)⟩
end Plain
theorem HasT.rowOf {w : World} {vm vu : Value} {t : Plain.Ta} (h : HasT w vm vu t) (k : Nat) (hm : t.moves.length = t.used.length) (hk : k < t.used.length) :
    ∃ b off cap r, vm = .slice (some ⟨b, off, none⟩) t.moves.length cap ∧ b < w.heap.size ∧ w.cell? ⟨b, off + k, none⟩ = some r ∧ RowS w r (Plain.rowOf t k) := by
  obtain ⟨_, p, cap, rfl, hp⟩ := h.m
  obtain ⟨b, off, rfl, hb, hc⟩ := hp (by omega)
  obtain ⟨r, h1, h2⟩ := hc k (by omega)
  refine ⟨b, off, cap, r, rfl, hb, h1, ?_⟩
  unfold Plain.rowOf
  rw [if_pos hk]
  exact h2

theorem box_cells' (w : World) (vm vu : Value) : (w.alloc (boxT vm vu)).cell? ⟨w.heap.size, 0, none⟩ = some vm ∧ (w.alloc (boxT vm vu)).cell? ⟨w.heap.size, 1, none⟩ = some vu :=
  ⟨by rw [World.cell?_alloc_at _ _ _ _ rfl]; rfl, by rw [World.cell?_alloc_at _ _ _ _ rfl]; rfl⟩

set_option maxHeartbeats 2000000 in
theorem rmay_c (vm vu : Value) (t : Plain.Ta) (w : World) (h : HasT w vm vu t) :
    Calls Try.prog 19 #[aggT vm vu] w fun e w' => e = .returned (.bool (Plain.mayT t)) ∧ w' = w.alloc (boxT vm vu) := by
  by_cases h1 : t.used.length < 1
  · have e1 : Plain.mayT t = false := by unfold Plain.mayT; rw [decide_eq_false (by omega : ¬ (1 ≤ t.used.length ∧ t.used.length ≤ 8 ∧ t.moves.length = t.used.length))]; rfl
    rw [e1]
    obtain ⟨pu, cu, rfl, _⟩ := h.u.form
    obtain ⟨hmb, pm, cm, rfl, _⟩ := h.m
    have g : (t.used.length : Int) < 1 := by omega
    clear h h1
    go_enter Try.func19, Try.ntmps19
    go_wp2
    go_ret
    exact ⟨rfl, rfl⟩
  by_cases h2 : 8 < t.used.length
  · have e1 : Plain.mayT t = false := by unfold Plain.mayT; rw [decide_eq_false (by omega : ¬ (1 ≤ t.used.length ∧ t.used.length ≤ 8 ∧ t.moves.length = t.used.length))]; rfl
    rw [e1]
    obtain ⟨pu, cu, rfl, _⟩ := h.u.form
    obtain ⟨hmb, pm, cm, rfl, _⟩ := h.m
    have g : ¬ (t.used.length : Int) < 1 := by omega
    have g2 : (8 : Int) < t.used.length := by omega
    clear h h1 h2
    go_enter Try.func19, Try.ntmps19
    go_wp2
    go_ret
    exact ⟨rfl, rfl⟩
  by_cases h3 : t.moves.length = t.used.length
  · have NO := hid (fun i => Plain.mayT_no (t := t) i h3)
    have YES := hid (Plain.mayT_yes (t := t) (by omega) (by omega) h3)
    have RO := hid (fun (k : Nat) (W : World) (hh : HasT W vm vu t) => HasT.rowOf hh k h3)
    obtain ⟨W, hW⟩ : ∃ W, W = w.alloc (boxT vm vu) := ⟨_, rfl⟩
    have HH := hid (h.grow (w' := W) (by rw [hW]; exact (Below.refl _ _).alloc (Nat.le_refl _) _))
    obtain ⟨pu, cu, rfl, _⟩ := h.u.form
    obtain ⟨hmb, pm, cm, rfl, _⟩ := h.m
    have RU := hid (show Plain.rowOf t t.used.length = t.used by unfold Plain.rowOf; rw [if_neg (by omega)])
    clear h hmb
    generalize hn : t.used.length = n at *
    generalize hm : t.moves.length = m at *
    have HN := hid hn
    clear hm
    subst h3
    have g1 : ¬ (m : Int) < 1 := by omega
    have g2 : ¬ (8 : Int) < m := by omega
    have g3 : ((m : Int) != (m : Int)) = false := by rw [bne_eq_false_iff_eq]
    have bx := box_cells' w (.slice pm m cm) (.slice pu m cu)
    rw [← hW] at bx
    have HW := hid hW
    clear hn
    go_enter Try.func19, Try.ntmps19
    go_wp2
    rw [← hW]
    clear hW
    generalize w.heap.size = B at bx ⊢
    have X := hid bx
    clear bx g1 g2 g3
    go_loopw [4] (fun i wx => ∃ k : Nat, k ≤ m + 1 ∧ i = .int .i64 k ∧ wx = W ∧ ∀ j, j < k → Plain.badR m (Plain.rowOf t j) = false) (fun i _ => m + 1 - (intOf i).toNat)
    case atStart => exact ⟨0, Nat.zero_le _, rfl, rfl, fun j hj => absurd hj (Nat.not_lt_zero _)⟩
    case round =>
      obtain ⟨k, hk, rfl, hw, hok⟩ := hrel
      have hy0 := hw.symm; clear hw; subst hy0
      have HO := hid hok
      clear hok
      obtain ⟨x0, x1⟩ := X.out
      by_cases hlt : k < m
      · have hlt1 : (k : Int) < (m : Int) := by omega
        have hlt2 : (k : Int) ≤ (m : Int) := by omega
        obtain ⟨b1, o1, cp, r, e1, hb1, c1, hrow⟩ := RO.out k _ HH.out hlt
        simp only [Value.slice.injEq, true_and] at e1
        obtain ⟨rfl, rfl⟩ := e1
        obtain ⟨pr, cr, rfl, hpr⟩ := hrow.form
        have hbig := hrow.b
        have HPR := hid hpr
        have HNO := hid (fun h => NO.out k h)
        clear hrow hpr
        generalize hR : Plain.rowOf t k = R at *
        have HR := hid hR
        clear hR
        by_cases hlen : R.length = m
        · have e1 : ((R.length : Int) != (m : Int)) = false := by rw [bne_eq_false_iff_eq]; omega
          have HL := hid hlen
          have hlz : (R.length : Int) ≤ 8 := by omega
          have HBL := hid (fun (h : ∀ j, j < R.length → Plain.badN (R.getD j 0) = false) => Plain.badR_none (n := m) HL.out (fun j hj => h j (by have := HL.out; omega)))
          generalize hRl : R.length = rl at *
          have HRL := hid hRl
          clear hRl hlen
          go_wp2
          go_loopw [45] (fun i wx => ∃ j : Nat, j ≤ rl ∧ i = .int .i64 j ∧ wx = W ∧ ∀ x, x < j → Plain.badN (R.getD x 0) = false) (fun i _ => rl - (intOf i).toNat)
          case atStart => exact ⟨0, Nat.zero_le _, rfl, rfl, fun x hx => absurd hx (Nat.not_lt_zero _)⟩
          case round =>
            obtain ⟨j, hj, rfl, hw, hn⟩ := hrel
            have hy0 := hw.symm; clear hw; subst hy0
            have HT := hid hn
            clear hn
            by_cases hjm : j < rl
            · have hjz : (j : Int) < (rl : Int) := by omega
              obtain ⟨b3, o3, rfl, _, hc3⟩ := HPR.out (by omega)
              have c3 := hc3 j hjm
              clear hc3
              have hat := hid (fun h => HNO.out (Plain.badR_at j (by rw [HRL.out]; exact hjm) h))
              generalize hz : R.getD j 0 = z at c3 hat
              have HZ := hid hz
              clear hz
              by_cases hz1 : z < 0
              · go_wp2
                go_ret
                exact ⟨by rw [hat.out (by unfold Plain.badN; rw [decide_eq_true_eq]; exact .inl hz1)]; rfl, HW.out⟩
              · by_cases hz2 : 1048576 < z
                · go_wp2
                  go_ret
                  exact ⟨by rw [hat.out (by unfold Plain.badN; rw [decide_eq_true_eq]; exact .inr hz2)]; rfl, HW.out⟩
                · go_wp2
                  go_roundw
                  case rel =>
                    refine ⟨j + 1, by omega, by go_num, by first | rfl | trivial, fun x hx => ?_⟩
                    by_cases e : x = j
                    · subst e; rw [HZ.out]; exact Plain.badN_no.2 (by omega)
                    · exact HT.out x (by omega)
                  case measure => simp [intOf]; omega
            · have ej : j = rl := by omega
              have ejz : ¬ (j : Int) < (rl : Int) := by omega
              have HNX := hid (show Plain.badR m (Plain.rowOf t k) = false by rw [HR.out]; exact HBL.out (fun x hx => HT.out x (by omega)))
              clear ej
              go_wp2
              go_roundw
              case rel =>
                refine ⟨k + 1, by omega, by go_num, by first | rfl | trivial, fun x hx => ?_⟩
                by_cases e : x = k
                · subst e; exact HNX.out
                · exact HO.out x (by omega)
              case measure => simp [intOf]; omega
        · have e1 : ((R.length : Int) != (m : Int)) = true := by rw [bne_iff_ne]; omega
          have e2 := hid (HNO.out (Plain.badR_len hlen))
          generalize R.length = rl at *
          go_wp2
          go_ret
          exact ⟨by rw [e2.out]; rfl, HW.out⟩
      by_cases hem : k = m
      · have hlt1 : ¬ (k : Int) < (m : Int) := by omega
        have hlt2 : (k : Int) ≤ (m : Int) := by omega
        have hrow : RowS W (.slice pu m cu) (Plain.rowOf t k) := by rw [hem, RU.out]; exact HH.out.u
        clear hlt hem
        obtain ⟨pr, cr, epr, hpr⟩ := hrow.form
        simp only [Value.slice.injEq] at epr
        obtain ⟨rfl, ehl, rfl⟩ := epr
        have EHL := hid ehl
        clear ehl
        have hbig := hrow.b
        have HPR := hid hpr
        have HNO := hid (fun h => NO.out k h)
        clear hrow hpr
        generalize hR : Plain.rowOf t k = R at *
        have HR := hid hR
        clear hR
        have HL := hid (show R.length = m from EHL.out.symm)
        have HRL := HL
        have HBL := hid (fun (h : ∀ j, j < R.length → Plain.badN (R.getD j 0) = false) => Plain.badR_none (n := m) HL.out (fun j hj => h j (by have := HL.out; omega)))
        have hlz : (m : Int) ≤ 8 := by omega
        go_wp2
        go_loopw [45] (fun i wx => ∃ j : Nat, j ≤ m ∧ i = .int .i64 j ∧ wx = W ∧ ∀ x, x < j → Plain.badN (R.getD x 0) = false) (fun i _ => m - (intOf i).toNat)
        case atStart => exact ⟨0, Nat.zero_le _, rfl, rfl, fun x hx => absurd hx (Nat.not_lt_zero _)⟩
        case round =>
          obtain ⟨j, hj, rfl, hw, hn⟩ := hrel
          have hy0 := hw.symm; clear hw; subst hy0
          have HT := hid hn
          clear hn
          by_cases hjm : j < m
          · have hjz : (j : Int) < (m : Int) := by omega
            obtain ⟨b3, o3, rfl, _, hc3⟩ := HPR.out (by have := HL.out; omega)
            have c3 := hc3 j (by have := HL.out; omega)
            clear hc3
            have hat := hid (fun h => HNO.out (Plain.badR_at j (by rw [HRL.out]; exact hjm) h))
            generalize hz : R.getD j 0 = z at c3 hat
            have HZ := hid hz
            clear hz
            by_cases hz1 : z < 0
            · go_wp2
              go_ret
              exact ⟨by rw [hat.out (by unfold Plain.badN; rw [decide_eq_true_eq]; exact .inl hz1)]; rfl, HW.out⟩
            · by_cases hz2 : 1048576 < z
              · go_wp2
                go_ret
                exact ⟨by rw [hat.out (by unfold Plain.badN; rw [decide_eq_true_eq]; exact .inr hz2)]; rfl, HW.out⟩
              · go_wp2
                go_roundw
                case rel =>
                  refine ⟨j + 1, by omega, by go_num, by first | rfl | trivial, fun x hx => ?_⟩
                  by_cases e : x = j
                  · subst e; rw [HZ.out]; exact Plain.badN_no.2 (by omega)
                  · exact HT.out x (by omega)
                case measure => simp [intOf]; omega
          · have ej : j = m := by omega
            have ejz : ¬ (j : Int) < (m : Int) := by omega
            have HNX := hid (show Plain.badR m (Plain.rowOf t k) = false by rw [HR.out]; exact HBL.out (fun x hx => HT.out x (by have := HL.out; omega)))
            clear ej
            go_wp2
            go_roundw
            case rel =>
              refine ⟨k + 1, by omega, by go_num, by first | rfl | trivial, fun x hx => ?_⟩
              by_cases e : x = k
              · subst e; exact HNX.out
              · exact HO.out x (by omega)
            case measure => simp [intOf]; omega
      · have hgt : ¬ (k : Int) ≤ (m : Int) := by omega
        have HY := hid (YES.out (fun i hi => HO.out i (by omega)))
        clear hlt hem
        go_wp2
        go_ret
        exact ⟨by rw [HY.out]; rfl, HW.out⟩
  · have e1 : Plain.mayT t = false := by unfold Plain.mayT; rw [decide_eq_false (fun h => h3 h.2.2 : ¬ (1 ≤ t.used.length ∧ t.used.length ≤ 8 ∧ t.moves.length = t.used.length))]; rfl
    rw [e1]
    obtain ⟨pu, cu, rfl, _⟩ := h.u.form
    obtain ⟨hmb, pm, cm, rfl, _⟩ := h.m
    have g : ¬ (t.used.length : Int) < 1 := by omega
    have g2 : ¬ (8 : Int) < t.used.length := by omega
    have g3 : ((t.moves.length : Int) != (t.used.length : Int)) = true := by rw [bne_iff_ne]; omega
    clear h h1 h2 h3
    go_enter Try.func19, Try.ntmps19
    go_wp2
    go_ret
    exact ⟨rfl, rfl⟩
end Go.Proofs.Ytcdlgpickjiikag
