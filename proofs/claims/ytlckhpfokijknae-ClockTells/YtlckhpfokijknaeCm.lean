/-
  Contracts of clock.May and of the document's answer to it; of clock.refuse.
-/
import Derived.Test.YtlckhpfokijknaeSg
import Derived.Test.YtlckhpfokijknaeCp
namespace Go.Proofs.Ytlckhpfokijknae
open Go.RowKit

theorem ret_int {k : IntKind} {a b : Int} (h : a = b) : Ending.returned (.int k a) = .returned (.int k b) := by rw [h]
theorem ret_bool {a b : Bool} (h : a = b) : Ending.returned (.bool a) = .returned (.bool b) := by rw [h]
theorem ret_two {k1 k2 : IntKind} {a b c d : Int} (h : a = c) (h' : b = d) : Ending.returned (.tuple #[.int k1 a, .int k2 b]) = .returned (.tuple #[.int k1 c, .int k2 d]) := by rw [h, h']

namespace Plain
theorem all_at {f : Int → Bool} {l : List Int} {k : Nat} (hk : k < l.length) (h : (l.take k).all f = true) (hx : f (l.getD k 0) = true) : (l.take (k + 1)).all f = true := by
  rw [List.take_succ_eq_append_getElem hk, List.all_append, h]
  have e : l.getD k 0 = l[k] := by simp [List.getD_eq_getElem?_getD, hk]
  rw [e] at hx
  simp [hx]
theorem all_not {f : Int → Bool} {l : List Int} {k : Nat} (hk : k < l.length) (hx : f (l.getD k 0) = false) : l.all f = false := by
  rw [List.all_eq_false]
  have e : l.getD k 0 = l[k] := by simp [List.getD_eq_getElem?_getD, hk]
  exact ⟨l[k], List.getElem_mem hk, by rw [← e, hx]; simp⟩
theorem okN_no {n : Int} (h : n < 0 ∨ 1048576 < n) : okN n = false := by
  cases hh : okN n
  · rfl
  · have := (okN_iff n).1 hh; omega
end Plain

set_option maxHeartbeats 400000 in
theorem index_nil (p : Option Addr) (cap : Nat) (f : Value) (w : World) :
    Calls Try.prog 22 #[.slice p 0 cap, f] w fun e w' => e = .returned (.int .i64 (-1)) ∧ w' = w := by
  go_enter Try.func22, Try.ntmps22
  go_wp2
  refine wp_loop_rounds 1 ?_
  rw [rounds_succ]
  go_wp2
  go_ret
  exact ⟨rfl, rfl⟩

set_option maxHeartbeats 1000000 in
theorem index_some (b off cap : Nat) (c : List Int) (hl : c.length ≤ 9223372036854775807) (w : World)
    (h : ∀ j, j < c.length → w.cell? ⟨b, off + j, none⟩ = some (.int .i64 (c.getD j 0))) :
    Calls Try.prog 22 #[.slice (some ⟨b, off, none⟩) c.length cap, .func (.func 21) #[] #[]] w
      fun e w' => (∃ r : Int, e = .returned (.int .i64 r) ∧ decide (0 ≤ r) = !c.all Plain.okN) ∧ w' = w := by
  have H := hid h
  clear h
  go_enter Try.func22, Try.ntmps22
  go_wp2
  go_loop [8] (fun i => ∃ k : Nat, k ≤ c.length ∧ i = .int .i64 k ∧ (c.take k).all Plain.okN = true) (fun i => c.length - (intOf i).toNat)
  case atStart => exact ⟨0, Nat.zero_le _, rfl, rfl⟩
  case round =>
    obtain ⟨k, hk, rfl, hall⟩ := hrel
    have HA := hid hall
    clear hall
    by_cases hlt : k < c.length
    · have g := H.out k hlt
      have hlt' : (k : Int) < (c.length : Int) := by omega
      obtain ⟨x, hx⟩ : ∃ x, x = c.getD k 0 := ⟨_, rfl⟩
      rw [← hx] at g
      have HX := hid hx
      clear hx
      by_cases c1 : x < 0
      · go_wp2
        go_ret
        exact ⟨⟨_, rfl, by rw [Plain.all_not hlt (by rw [← HX.out]; exact Plain.okN_no (.inl c1))]; simp⟩, rfl⟩
      · by_cases c2 : 1048576 < x
        · go_wp2
          go_ret
          exact ⟨⟨_, rfl, by rw [Plain.all_not hlt (by rw [← HX.out]; exact Plain.okN_no (.inr c2))]; simp⟩, rfl⟩
        · go_wp2
          go_round
          case rel => exact ⟨k + 1, by omega, by go_num, Plain.all_at hlt HA.out (by rw [← HX.out]; exact (Plain.okN_iff x).2 ⟨by omega, by omega⟩)⟩
          case measure => simp [intOf]; omega
    · have ek : k = c.length := by omega
      subst ek
      go_wp2
      go_ret
      exact ⟨⟨_, rfl, by have := HA.out; rw [List.take_length] at this; rw [this]; rfl⟩, rfl⟩

set_option maxHeartbeats 400000 in
theorem contains_any (v : Value) (c : List Int) (hl : c.length ≤ 9223372036854775807) (w : World) (h : Seg w v c) :
    Calls Try.prog 20 #[v, .func (.func 21) #[] #[]] w
      fun e w' => e = .returned (.bool (!c.all Plain.okN)) ∧ w' = w := by
  have H : Calls Try.prog 22 #[v, .func (.func 21) #[] #[]] w fun e w' => (∃ r : Int, e = .returned (.int .i64 r) ∧ decide (0 ≤ r) = !c.all Plain.okN) ∧ w' = w := by
    rcases h with ⟨rfl, p, cc, rfl⟩ | ⟨b, o, cc, rfl, g⟩
    · exact (index_nil p cc _ w).mono fun e w' ⟨he, hw⟩ => ⟨⟨-1, he, rfl⟩, hw⟩
    · exact index_some b o cc c hl w g
  go_enter Try.func20, Try.ntmps20
  go_wp2_with fail
  refine H.mono ?_
  rintro e w' ⟨⟨r, rfl, hr⟩, rfl⟩
  have HR := hid hr
  clear hr H
  by_cases hr0 : 0 ≤ r
  · go_wp2
    go_ret
    exact ⟨ret_bool (by first | (rw [← HR.out]; done) | (rw [← HR.out]; simp [hr0])), rfl⟩
  · go_wp2
    go_ret
    exact ⟨ret_bool (by first | (rw [← HR.out]; done) | (rw [← HR.out]; simp [hr0])), rfl⟩

theorem seg_form {w : World} {u : Value} {bl : List Int} (h : Seg w u bl) : ∃ p c, u = .slice p bl.length c := by
  rcases h with ⟨rfl, p, c, rfl⟩ | ⟨b, o, c, rfl, _⟩
  · exact ⟨p, c, rfl⟩
  · exact ⟨_, c, rfl⟩

set_option maxHeartbeats 400000 in
/-- clock.May at whatever slice. -/
theorem may_any (v : Value) (c : List Int) (hl : c.length ≤ 9223372036854775807) (w : World) (h : Seg w v c) :
    Calls Try.prog 19 #[v] w fun e w' => e = .returned (.bool (Plain.okC c)) ∧ w' = w := by
  obtain ⟨p, cap, rfl⟩ := seg_form h
  have H := hid h
  clear h
  by_cases c1 : c.length < 1
  · have e : Plain.okC c = false := by
      cases hh : Plain.okC c
      · rfl
      · have := (Plain.okC_iff c).1 hh; omega
    rw [e]
    go_enter Try.func19, Try.ntmps19
    go_wp2
    go_ret
    exact ⟨rfl, rfl⟩
  · by_cases c2 : 8 < c.length
    · have e : Plain.okC c = false := by
        cases hh : Plain.okC c
        · rfl
        · have := (Plain.okC_iff c).1 hh; omega
      rw [e]
      go_enter Try.func19, Try.ntmps19
      go_wp2
      go_ret
      exact ⟨rfl, rfl⟩
    · have e : Plain.okC c = c.all Plain.okN := by
        unfold Plain.okC
        have h1 : decide (1 ≤ c.length) = true := by simp; omega
        have h2 : decide (c.length ≤ 8) = true := by simp; omega
        rw [h1, h2]; simp
      rw [e]
      have K := contains_any _ c hl w H.out
      generalize c.all Plain.okN = t at K
      go_enter Try.func19, Try.ntmps19
      cases t
      · go_wp2_with (first | (go_at_call 20; refine K.mono ?_; rintro e w' ⟨rfl, rfl⟩) | go_in)
        go_ret
        exact ⟨rfl, rfl⟩
      · go_wp2_with (first | (go_at_call 20; refine K.mono ?_; rintro e w' ⟨rfl, rfl⟩) | go_in)
        go_ret
        exact ⟨rfl, rfl⟩
end Go.Proofs.Ytlckhpfokijknae
