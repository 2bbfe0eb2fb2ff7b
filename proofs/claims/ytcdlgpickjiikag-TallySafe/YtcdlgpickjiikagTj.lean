/-
  Contracts of tally.May and of what it hands on.
-/
import Derived.Test.YtcdlgpickjiikagTi
namespace Go.Proofs.Ytcdlgpickjiikag
open Go.RowKit Go.Shelf

set_option maxHeartbeats 1000000 in
theorem badR_c (v : Value) (l : List Int) (bb n : Nat) (_hn : n ≤ 9223372036854775807) (w : World) (h : RowS w v l) (hc : w.cell? ⟨bb, 0, none⟩ = some (.int .i64 n)) :
    Calls Try.prog 25 #[v, .pointer (some ⟨bb, 0, none⟩)] w fun e w' => e = .returned (.bool (Plain.badR n l)) ∧ w' = w := by
  have K := containsI v l w h
  obtain ⟨p, c, rfl, _⟩ := h.form
  have hb := h.b
  clear h
  unfold Plain.badR
  generalize l.any Plain.badN = r at K ⊢
  by_cases e : l.length = n
  · have e1 : (l.length != n) = false := by rw [bne_eq_false_iff_eq]; exact e
    have e2 : ((l.length : Int) != (n : Int)) = false := by rw [bne_eq_false_iff_eq]; omega
    rw [e1, Bool.false_or]
    clear e e1
    go_enter Try.func25, Try.ntmps25
    go_wp2_with fail
    refine K.mono ?_
    rintro e w' ⟨rfl, rfl⟩
    clear K
    go_wp2
    go_ret
    exact ⟨rfl, rfl⟩
  · have e1 : (l.length != n) = true := by rw [bne_iff_ne]; exact e
    have e2 : ((l.length : Int) != (n : Int)) = true := by rw [bne_iff_ne]; omega
    rw [e1, Bool.true_or]
    clear e e1 K
    go_enter Try.func25, Try.ntmps25
    go_wp2
    go_ret
    exact ⟨rfl, rfl⟩

set_option maxHeartbeats 2000000 in
theorem indexT_c (p : Option Addr) (m c bb n : Nat) (M : List (List Int)) (w : World) (hm : M.length = m) (hbig : m ≤ 9223372036854775807) (hn : n ≤ 9223372036854775807) (hbb : w.cell? ⟨bb, 0, none⟩ = some (.int .i64 n))
    (hp : 0 < m → ∃ b off, p = some ⟨b, off, none⟩ ∧ ∀ j, j < m → ∃ r, w.cell? ⟨b, off + j, none⟩ = some r ∧ RowS w r (M.getD j [])) :
    Calls Try.prog 34 #[.slice p m c, .func (.func 25) #[] #[.pointer (some ⟨bb, 0, none⟩)]] w fun e w' => e = .returned (.int .i64 (Plain.idxA (Plain.badR n) M)) ∧ w' = w := by
  have HP := hid hp
  have HN := hid hm
  have HB := hid hbb
  clear hp hm hbb
  go_enter Try.func34, Try.ntmps34
  go_wp2
  go_loopg [5, 8] m (fun gg _ s8 wr => ∃ kk : Nat, kk ≤ m ∧ m - kk ≤ gg ∧ s8 = .int .i64 kk ∧ wr = w ∧ Aside (∀ j, j < kk → Plain.badR n (M.getD j []) = false))
  case atStart => exact ⟨0, Nat.zero_le _, by omega, rfl, rfl, fun j hj => absurd hj (Nat.not_lt_zero _)⟩
  case round =>
    obtain ⟨kk, hkk, hg, rfl, rfl, A⟩ := hrel
    by_cases hlt : kk < m
    · have hltz : (kk : Int) < (m : Int) := by omega
      obtain ⟨b, off, rfl, hc⟩ := HP.out (by omega)
      obtain ⟨r, c0, hr⟩ := hc kk hlt
      clear hc
      have hcall := badR_c r (M.getD kk []) bb n hn wr hr HB.out
      obtain ⟨pr, cr, rfl, _⟩ := hr.form
      clear hr
      generalize hy : M.getD kk [] = y at c0 hcall
      have HY : Aside (M.getD kk [] = y) := hy
      clear hy
      cases hq : Plain.badR n y with
      | true =>
        rw [hq] at hcall
        go_wp2_with fail
        refine hcall.mono ?_
        rintro e w' ⟨rfl, rfl⟩
        clear hcall
        go_wp2
        go_ret
        refine ⟨?_, rfl⟩
        rw [Plain.idxA_hit (d := []) (by have := HN.out; omega) (by rw [HY.out]; exact hq) A.out]
        rfl
      | false =>
        rw [hq] at hcall
        go_wp2_with fail
        refine hcall.mono ?_
        rintro e w' ⟨rfl, rfl⟩
        clear hcall
        go_wp2
        go_roundg (m - (kk + 1))
        case measure => omega
        case rel =>
          refine ⟨kk + 1, by omega, by omega, by go_num, rfl, (show Aside _ from fun j hj => ?_)⟩
          by_cases e : j = kk
          · subst e
            rw [HY.out]; exact hq
          · exact A.out j (by omega)
    · have hltz : ¬ (kk : Int) < (m : Int) := by omega
      have : kk = m := by omega
      subst this
      go_wp2
      go_ret
      refine ⟨?_, rfl⟩
      rw [Plain.idxA_miss (d := []) (fun j hj => A.out j (by have := HN.out; omega))]
      rfl

theorem containsT (v : Value) (M : List (List Int)) (bb n : Nat) (w : World) (h : TabS w v M) (hn : n ≤ 9223372036854775807) (hbb : w.cell? ⟨bb, 0, none⟩ = some (.int .i64 n)) :
    Calls Try.prog 28 #[v, .func (.func 25) #[] #[.pointer (some ⟨bb, 0, none⟩)]] w fun e w' => e = .returned (.bool (M.any (Plain.badR n))) ∧ w' = w := by
  rw [← Plain.idxA_any]
  obtain ⟨hb, p, c, rfl, hp⟩ := h
  have K := indexT_c p M.length c bb n M w rfl hb hn hbb (fun h0 => by obtain ⟨b, off, e, _, hc⟩ := hp h0; exact ⟨b, off, e, hc⟩)
  clear hp hbb
  generalize Plain.idxA (Plain.badR n) M = r at K ⊢
  generalize M.length = m at K ⊢
  go_enter Try.func28, Try.ntmps28
  go_wp2_with fail
  refine K.mono ?_
  rintro e w' ⟨rfl, rfl⟩
  clear K
  go_wp2
  go_ret
  exact ⟨rfl, rfl⟩

/-- A tally in a box. -/
abbrev boxT (vm vu : Value) : Obj := .cells #[vm, vu] 25
set_option maxHeartbeats 1000000 in
theorem may_c (vm vu : Value) (t : Plain.Ta) (w : World) (h : HasT w vm vu t) :
    Calls Try.prog 14 #[aggT vm vu] w fun e w' => e = .returned (.bool (Plain.mayT t)) ∧ w' = (w.alloc (boxT vm vu)).alloc (.cells #[.int .i64 t.used.length] 3) := by
  have hm0 := h.m
  have hu0 := h.u
  obtain ⟨pu, cu, rfl, _⟩ := h.u.form
  obtain ⟨hmb, pm, cm, rfl, _⟩ := h.m
  have hub := h.u.b
  have hmf : ∀ (fn : Fn) (first cap : Array Value) (w : World), (Instr.makeFunc fn first cap).run Try.prog w = .ok (.func fn first cap) w := fun _ _ _ _ => rfl
  clear h
  have HM := hid hm0
  have HU := hid hu0
  clear hm0 hu0
  unfold Plain.mayT
  generalize hn : t.used.length = n at *
  generalize hm : t.moves.length = m at *
  have HN := hid hn
  have HMM := hid hm
  clear hn hm
  by_cases h1 : n < 1
  · have g : (n : Int) < 1 := by omega
    rw [decide_eq_false (by omega : ¬ (1 ≤ n ∧ n ≤ 8 ∧ m = n)), Bool.false_and, Bool.false_and]
    go_enter Try.func14, Try.ntmps14
    go_wp2
    go_ret
    exact ⟨rfl, rfl⟩
  have g1 : ¬ (n : Int) < 1 := by omega
  by_cases h2 : 8 < n
  · have g : (8 : Int) < n := by omega
    rw [decide_eq_false (by omega : ¬ (1 ≤ n ∧ n ≤ 8 ∧ m = n)), Bool.false_and, Bool.false_and]
    go_enter Try.func14, Try.ntmps14
    go_wp2
    go_ret
    exact ⟨rfl, rfl⟩
  have g2 : ¬ (8 : Int) < n := by omega
  by_cases h3 : m = n
  · have g3 : ((m : Int) != (n : Int)) = false := by rw [bne_eq_false_iff_eq]; omega
    rw [decide_eq_true (⟨by omega, by omega, h3⟩ : 1 ≤ n ∧ n ≤ 8 ∧ m = n), Bool.true_and]
    clear h3
    obtain ⟨W, hW⟩ : ∃ W, W = (w.alloc (boxT (.slice pm m cm) (.slice pu n cu))).alloc (.cells #[.int .i64 n] 3) := ⟨_, rfl⟩
    have bel : Below w.heap.size w W := by rw [hW]; exact ((Below.refl _ _).alloc (Nat.le_refl _) _).alloc (by simp) _
    have hbb : W.cell? ⟨w.heap.size + 1, 0, none⟩ = some (.int .i64 n) := by rw [hW, World.cell?_alloc_at _ _ _ _ (by simp)]; rfl
    have K1 := badR_c _ t.used (w.heap.size + 1) n (by omega) W (HU.out.grow bel) hbb
    have K2 := containsT _ t.moves (w.heap.size + 1) n W (HM.out.grow bel) (by omega) hbb
    rw [hW] at K1 K2
    rw [← hW]
    have HW := hid hW
    clear hW bel hbb
    generalize Plain.badR n t.used = r1 at K1 ⊢
    generalize t.moves.any (Plain.badR n) = r2 at K2 ⊢
    cases r1 with
    | true =>
      clear K2
      go_enter Try.func14, Try.ntmps14
      go_wp2_with fail
      refine K1.mono ?_
      rintro e w' ⟨rfl, rfl⟩
      clear K1
      go_wp2
      go_ret
      exact ⟨rfl, HW.out.symm⟩
    | false =>
      go_enter Try.func14, Try.ntmps14
      go_wp2_with fail
      refine K1.mono ?_
      rintro e w' ⟨rfl, rfl⟩
      clear K1
      go_wp2_with fail
      refine K2.mono ?_
      rintro e w' ⟨rfl, rfl⟩
      clear K2
      go_wp2
      go_ret
      exact ⟨rfl, HW.out.symm⟩
  · have g3 : ((m : Int) != (n : Int)) = true := by rw [bne_iff_ne]; omega
    rw [decide_eq_false (fun h => h3 h.2.2 : ¬ (1 ≤ n ∧ n ≤ 8 ∧ m = n)), Bool.false_and, Bool.false_and]
    clear h3
    go_enter Try.func14, Try.ntmps14
    go_wp2
    go_ret
    exact ⟨rfl, rfl⟩
end Go.Proofs.Ytcdlgpickjiikag
