/-
  Contracts of reg.keysAscend and reg.May.
-/
import Derived.Test.YtiolkeghgodggakMb
import Derived.Test.YtiolkeghgodggakIf
import Derived.Deep.QuietTactic
import Derived.BigQuiet
namespace Go.Proofs.Ytiolkeghgodggak
open Go.RowKit Go.Shelf

theorem below_drewN {B : Nat} {w w' : World} (h : Below B w w') (q : Nat) : Below B w (w'.drewN q) := h.trans ⟨rfl, rfl, rfl, Nat.le_refl _, fun _ _ => rfl⟩
theorem drewN_addN (w : World) (a b : Nat) : (w.drewN a).drewN b = w.drewN (a + b) := World.drewN_drewN w a b

namespace Plain
theorem asc_no {l : List En} {k : Nat} (hk : k + 1 < l.length) (h : ¬ (en l k).key < (en l (k + 1)).key) : ascB l = false := by
  cases e : ascB l with
  | false => rfl
  | true => exact absurd ((asc_at l).1 e k hk) h
end Plain

set_option maxHeartbeats 2000000 in
theorem asc_some (l : List Plain.En) (b off c : Nat) (hl : l.length ≤ 9223372036854775807) (h0 : 0 < l.length) (w : World) (hc : CellsN w b off l) :
    Calls Try.prog 33 #[.slice (some ⟨b, off, none⟩) l.length c] w fun e w' => e = .returned (.bool (Plain.ascB l)) ∧ ∃ q, w' = w.drewN q := by
  have HC := hid hc
  clear hc
  go_enter Try.func33, Try.ntmps33
  go_wp2
  go_loopw [3] (fun i wx => ∃ k q : Nat, k < l.length ∧ i = .int .i64 (k + 1 : Nat) ∧ wx = w.drewN q ∧ ∀ j, j < k → (Plain.en l j).key < (Plain.en l (j + 1)).key) (fun i _ => l.length + 1 - (intOf i).toNat)
  case atStart => exact ⟨0, 0, h0, rfl, rfl, fun j hj => by omega⟩
  case round =>
    obtain ⟨k, q, hk, rfl, hw, ha⟩ := hrel
    have HW := hid hw
    have HA := hid ha
    clear hw ha
    by_cases hlt : k + 1 < l.length
    · have c1 : wr.cell? ⟨b, off + k * 5, none⟩ = some (.int .i64 (Plain.en l k).key) := by rw [HW.out]; simpa using (HC.out k (by omega)).c0
      have c2 : wr.cell? ⟨b, off + (k + 1) * 5, none⟩ = some (.int .i64 (Plain.en l (k + 1)).key) := by rw [HW.out]; simpa using (HC.out (k + 1) hlt).c0
      have hlt' : ((k : Int) + 1) < (l.length : Int) := by omega
      have hk' : (k : Int) < (l.length : Int) := by omega
      have hn := Plain.asc_no hlt
      generalize hx : (Plain.en l k).key = x at c1 hn
      generalize hy : (Plain.en l (k + 1)).key = y at c2 hn
      have HX := hid hx
      have HY := hid hy
      clear hx hy
      have e1 : (((k + 1 : Nat) : Int)) = (k : Int) + 1 := by omega
      rw [e1]
      clear e1
      by_cases hxy : x < y
      · clear hn
        have HXY := hid hxy
        go_wp2
        go_quiet (fail)
        go_wp2
        go_roundw
        case rel =>
          refine ⟨k + 1, _, hlt, by go_num, by rw [HW.out, drewN_addN], fun j hj => ?_⟩
          by_cases e : j = k
          · subst e; rw [HX.out, HY.out]; exact HXY.out
          · exact HA.out j (by omega)
        case measure => simp [intOf]; omega
      · have hn' := hid (hn hxy)
        clear hn
        have hyx : y ≤ x := by omega
        go_wp2
        go_quiet (fail)
        go_wp2
        go_ret
        exact ⟨by rw [hn'.out]; rfl, _, by rw [HW.out, drewN_addN]⟩
    · have ek : k + 1 = l.length := by omega
      have HE := hid ((Plain.asc_at l).2 fun j hj => HA.out j (by omega))
      have hge : ¬ (((k + 1 : Nat) : Int)) < (l.length : Int) := by omega
      go_wp2
      go_ret
      exact ⟨by rw [HE.out]; rfl, _, HW.out⟩

set_option maxHeartbeats 1000000 in
theorem asc_nil (p : Option Addr) (c : Nat) (w : World) :
    Calls Try.prog 33 #[.slice p 0 c] w fun e w' => e = .returned (.bool true) ∧ w' = w := by
  go_enter Try.func33, Try.ntmps33
  go_wp2
  refine wp_loop_rounds 1 ?_
  rw [rounds_succ]
  go_wp2
  go_ret
  exact ⟨rfl, rfl⟩

theorem asc_any (v : Value) (l : List Plain.En) (hl : l.length ≤ 9223372036854775807) (w : World) (hs : SegN w v l) :
    Calls Try.prog 33 #[v] w fun e w' => e = .returned (.bool (Plain.ascB l)) ∧ Below w.heap.size w w' := by
  rcases hs with ⟨rfl, q, c, rfl⟩ | ⟨b, off, c, rfl, _, hc⟩
  · exact (asc_nil q c w).mono fun e w' ⟨h1, h2⟩ => ⟨by rw [h1]; rfl, by rw [h2]; exact Below.refl _ _⟩
  · by_cases h0 : 0 < l.length
    · exact (asc_some l b off c hl h0 w hc).mono fun e w' ⟨h1, q, h2⟩ => ⟨h1, by rw [h2]; exact below_drewN (Below.refl _ _) q⟩
    · obtain rfl : l = [] := List.length_eq_zero_iff.1 (by omega)
      exact (asc_nil _ c w).mono fun e w' ⟨h1, h2⟩ => ⟨by rw [h1]; rfl, by rw [h2]; exact Below.refl _ _⟩

theorem pred_may (w : World) : PredN 31 (fun e => !Plain.mayB e) w := fun W x hb =>
  (may1_c x W).mono fun e w' ⟨h1, h2⟩ => ⟨h1, by rw [h2]; exact (hb.alloc hb.size _).alloc (by simpa using Nat.le_succ_of_le hb.size) _⟩

namespace Plain
theorem may_long {l : List En} (h : 8 < l.length) : mayL l = false := by unfold mayL; rw [decide_eq_false (by omega)]; rfl
theorem may_bad {l : List En} (h : l.any (fun e => !mayB e) = true) : mayL l = false := by
  unfold mayL
  have : l.all mayB = false := by
    rw [List.all_eq_false]
    obtain ⟨x, hx, hp⟩ := List.any_eq_true.1 h
    exact ⟨x, hx, by simpa using hp⟩
  rw [this]
  simp
theorem may_asc {l : List En} (h8 : l.length ≤ 8) (h : l.any (fun e => !mayB e) = false) : mayL l = ascB l := by
  unfold mayL
  have : l.all mayB = true := by
    rw [List.all_eq_true]
    intro x hx
    have := (List.any_eq_false.1 h) x hx
    simpa using this
  rw [this, decide_eq_true h8]
  simp
end Plain

set_option maxHeartbeats 1000000 in
theorem may_any (v : Value) (l : List Plain.En) (hl : l.length ≤ 9223372036854775807) (w : World) (hs : SegN w v l) (hy : Lies w.heap.size v) :
    Calls Try.prog 18 #[v] w fun e w' => e = .returned (.bool (Plain.mayL l)) ∧ Below w.heap.size w w' := by
  obtain ⟨p, c, rfl, _⟩ := hs.form
  by_cases h8 : l.length ≤ 8
  · have h8' : (l.length : Int) ≤ 8 := by omega
    have eg : ∀ args w, (callFunc 31 args).run Try.prog w = .ok (.enter 31 args) w := enters_of Try.func31 (by kernel_rfl) rfl
    have K := contains_any (fun e => !Plain.mayB e) 31 eg _ l w (pred_may w) hl hs hy
    have HS := hid hs
    have HY := hid hy
    clear hs hy
    cases hq : l.any (fun e => !Plain.mayB e) with
    | true =>
      rw [hq] at K
      rw [Plain.may_bad hq]
      clear hq
      go_enter Try.func18, Try.ntmps18
      go_wp2_with (go_at_call 30; refine K.mono ?_; rintro e w1 ⟨rfl, b1⟩)
      go_ret
      exact ⟨rfl, b1⟩
    | false =>
      rw [hq] at K
      rw [Plain.may_asc h8 hq]
      clear hq
      have K2 := fun w1 b1 => asc_any _ l hl w1 (HS.out.below (B := w.heap.size) (w' := w1) b1 HY.out)
      generalize Plain.ascB l = r at K2 ⊢
      go_enter Try.func18, Try.ntmps18
      go_wp2_with (first
        | (go_at_call 30; refine K.mono ?_; rintro e w1 ⟨rfl, b1⟩)
        | (go_at_call 33; refine (K2 _ (by assumption)).mono ?_; rintro e w2 ⟨rfl, b2⟩))
      go_ret
      exact ⟨rfl, b1.trans (b2.mono b1.size)⟩
  · have h8' : ¬ (l.length : Int) ≤ 8 := by omega
    rw [Plain.may_long (by omega)]
    clear hs
    go_enter Try.func18, Try.ntmps18
    go_wp2
    go_ret
    exact ⟨rfl, Below.refl _ _⟩
end Go.Proofs.Ytiolkeghgodggak
