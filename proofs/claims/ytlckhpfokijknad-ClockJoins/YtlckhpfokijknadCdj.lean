/-
  A contract of the document's answer to Join.
-/
import Derived.Test.YtlckhpfokijknadCd
namespace Go.Proofs.Ytlckhpfokijknad
open Go.RowKit

theorem seg_of_owns {w : World} {base n : Nat} {v : Value} {xs : List Value} {l : List Int} (h : w.ownsRow base 3 1 v n xs) (hn : n = l.length) (hx : xs = l.map (Value.int .i64)) : Seg w v l := by
  subst hn hx
  rcases h.2 with ⟨rfl, e⟩ | ⟨g, cap, cur, rfl, _, _, _, _, _, _⟩
  · exact .inl ⟨List.length_eq_zero_iff.1 e, none, 0, rfl⟩
  · refine .inr ⟨g, 0, cap, rfl, fun j hj => ?_⟩
    have := h.cells (g := g) rfl j (.int .i64 (l.getD j 0)) (by simp [hj])
    by_cases h0 : j = 0
    · subst h0; simpa [Addr.add] using this
    · simpa [Addr.add, h0] using this

theorem lies_owns {w : World} {base n e : Nat} {v : Value} {xs : List Value} (h : w.ownsRow base e 1 v n xs) : Lies w.heap.size v := by
  intro p k c hv hk
  subst hv
  exact (h.lt p.block rfl).2

theorem below_app {w W w1 wr : World} {B : Nat} {v : Value} {n e : Nat} {xs : List Value} (hW : Below B w W) (hB : B ≤ W.heap.size) (hg : W.grownBy w1 v.ownBlock) (hown : wr.ownsRow B e 1 v n xs) : Below B w w1 :=
  hW.grown hg hB (fun j hj => (hown.lt j hj).1)

/-- Numbers, as values. -/
def ivals (l : List Int) : List Value := l.map (Value.int .i64)
theorem ivals_snoc (l : List Int) (x : Int) : ivals (l ++ [x]) = ivals l ++ [.int .i64 x] := by simp [ivals]

theorem owns_heap {w w' : World} {B e s n : Nat} {v : Value} {xs : List Value} (h : w.ownsRow B e s v n xs) (hh : w'.heap = w.heap) : w'.ownsRow B e s v n xs := by
  unfold World.ownsRow at h ⊢
  rw [hh]
  exact h
theorem drewN_heap (w : World) (q : Nat) : (w.drewN q).heap = w.heap := by
  induction q generalizing w with
  | zero => rfl
  | succ q ih => exact ih w.drew

theorem new_cell (w : World) (n : Nat) (v : Value) (t : TypeId) : ((w.drewN n).alloc (.cells #[v] t)).cell? ⟨w.heap.size, 0, none⟩ = some v := by
  have e : w.heap.size = (w.drewN n).heap.size := by rw [drewN_heap]
  rw [e]
  generalize w.drewN n = u
  simp

namespace Plain
def joinK (a b : List Int) (k : Nat) : List Int := (List.range k).map (fun i => max (a.getD i 0) (b.getD i 0))
theorem joinK_succ (a b : List Int) (k : Nat) : joinK a b (k + 1) = joinK a b k ++ [max (a.getD k 0) (b.getD k 0)] := by simp [joinK, List.range_succ]
theorem joinK_len (a b : List Int) (k : Nat) : (joinK a b k).length = k := by simp [joinK]
end Plain

set_option maxHeartbeats 2000000 in
set_option maxRecDepth 100000 in
theorem rjoin_two (b1 o1 c1 b2 o2 c2 : Nat) (a b : List Int) (hl1 : 1 ≤ a.length) (hl : a.length ≤ 8) (w : World)
    (h1 : ∀ j, j < a.length → w.cell? ⟨b1, o1 + j, none⟩ = some (.int .i64 (a.getD j 0)))
    (h2 : ∀ j, j < a.length → w.cell? ⟨b2, o2 + j, none⟩ = some (.int .i64 (b.getD j 0)))
    (hb1 : b1 < w.heap.size) (hb2 : b2 < w.heap.size)
    (K1 : Calls Try.prog 10 #[.slice (some ⟨b1, o1, none⟩) a.length c1] w fun e w' => e = .returned (.bool true) ∧ w' = w)
    (K2 : Calls Try.prog 10 #[.slice (some ⟨b2, o2, none⟩) a.length c2] w fun e w' => e = .returned (.bool true) ∧ w' = w) :
    Calls Try.prog 12 #[.slice (some ⟨b1, o1, none⟩) a.length c1, .slice (some ⟨b2, o2, none⟩) a.length c2] w fun e w' =>
      ∃ r, e = .returned (.tuple #[r, .int .i64 0]) ∧ w'.ownsRow w.heap.size 3 1 r a.length (ivals (Plain.joinL a b)) ∧ Below w.heap.size w w' := by
  obtain ⟨i0, hi, hz0, hz1, hz2⟩ := info_parts Try.infoInt
  have H1 := hid h1
  have H2 := hid h2
  clear h1 h2
  go_enter Try.func12, Try.ntmps12
  go_wp2_with fail
  refine K1.mono ?_
  rintro e w' ⟨rfl, rfl⟩
  go_wp2_with fail
  refine K2.mono ?_
  rintro e w' ⟨rfl, rfl⟩
  clear K1 K2
  go_wp2
  go_loopw [6, 23] (fun v i wr => ∃ k : Nat, k ≤ a.length ∧ i = .int .i64 k ∧ wr.ownsRow w'.heap.size 3 1 v k (ivals (Plain.joinK a b k)) ∧ Below w'.heap.size w' wr)
    (fun _ i _ => a.length - (intOf i).toNat)
  case atStart => exact ⟨0, Nat.zero_le _, rfl, World.ownsRow_nil _ _ _ _, Below.refl _ _⟩
  case round =>
    obtain ⟨k, hk, rfl, hown, hbel⟩ := hrel
    have hge := hbel.size
    by_cases hlt : k < a.length
    · have g1 := (hbel.cell (p := ⟨b1, o1 + k, none⟩) hb1).trans (H1.out k hlt)
      have g2 := (hbel.cell (p := ⟨b2, o2 + k, none⟩) hb2).trans (H2.out k hlt)
      have hst := hid (Plain.joinK_succ a b k)
      obtain ⟨x, hx⟩ : ∃ x, x = a.getD k 0 := ⟨_, rfl⟩
      obtain ⟨y, hy⟩ : ∃ y, y = b.getD k 0 := ⟨_, rfl⟩
      rw [← hx] at g1 hst
      rw [← hy] at g2 hst
      clear hx hy
      have hlt' : (k : Int) < (a.length : Int) := by omega
      by_cases c : y < x
      · have hmx : max x y = x := by omega
        rw [hmx] at hst
        clear hmx
        go_wp2
        go_quiet (fail)
        go_wp2_with (first
          | (at_builtin; refine wpList_append_own _ rfl _ _ 22 rfl w'.heap.size 3 i0 (.int .i64 0) 1 8 Try.underlying22 hi hz0 hz1 hz2 rfl (by decide) _ _ _ rfl ((owns_heap hown (drewN_heap wr nq)).alloc _) ⟨wr.heap.size, 0, none⟩ 1 1 [.int .i64 x] rfl rfl ?c1 ?c2 ?c3 ?c4 ?c5 ?_)
          | go_in)
        case c1 =>
          intro j u hj
          match j, hj with
          | 0, hj => simp at hj; subst hj; exact new_cell wr nq _ _
        case c2 => first | rfl | (intro u hu; simp at hu; subst hu; rfl)
        case c3 => unfold maxLen; omega
        case c4 => omega
        case c5 => simp; omega
        intro v' w1 hown' hgrow _
        have R := hid (show w1.ownsRow w'.heap.size 3 1 v' (k + 1) (ivals (Plain.joinK a b (k + 1))) ∧ Below w'.heap.size w' w1 from
          ⟨by rw [hst.out, ivals_snoc]; exact hown', below_app ((below_drewN hbel nq).alloc (by rw [drewN_heap]; exact hge) _) (by simp; omega) hgrow hown⟩)
        clear hown' hgrow hown hbel
        go_wp2
        go_roundw
        case rel => first | exact ⟨k + 1, by omega, by go_num, R.out.1, R.out.2⟩ | ((repeat apply Exists.intro); exact ⟨⟨k + 1, by omega, by go_num, R.out.1, R.out.2⟩, rfl⟩)
        case measure => simp [intOf]; omega
      · have hmx : max x y = y := by omega
        rw [hmx] at hst
        clear hmx
        go_wp2
        go_quiet (fail)
        go_wp2_with (first
          | (at_builtin; refine wpList_append_own _ rfl _ _ 22 rfl w'.heap.size 3 i0 (.int .i64 0) 1 8 Try.underlying22 hi hz0 hz1 hz2 rfl (by decide) _ _ _ rfl ((owns_heap hown (drewN_heap wr nq)).alloc _) ⟨wr.heap.size, 0, none⟩ 1 1 [.int .i64 y] rfl rfl ?d1 ?d2 ?d3 ?d4 ?d5 ?_)
          | go_in)
        case d1 =>
          intro j u hj
          match j, hj with
          | 0, hj => simp at hj; subst hj; exact new_cell wr nq _ _
        case d2 => first | rfl | (intro u hu; simp at hu; subst hu; rfl)
        case d3 => unfold maxLen; omega
        case d4 => omega
        case d5 => simp; omega
        intro v' w1 hown' hgrow _
        have R := hid (show w1.ownsRow w'.heap.size 3 1 v' (k + 1) (ivals (Plain.joinK a b (k + 1))) ∧ Below w'.heap.size w' w1 from
          ⟨by rw [hst.out, ivals_snoc]; exact hown', below_app ((below_drewN hbel nq).alloc (by rw [drewN_heap]; exact hge) _) (by simp; omega) hgrow hown⟩)
        clear hown' hgrow hown hbel
        go_wp2
        go_roundw
        case rel => first | exact ⟨k + 1, by omega, by go_num, R.out.1, R.out.2⟩ | ((repeat apply Exists.intro); exact ⟨⟨k + 1, by omega, by go_num, R.out.1, R.out.2⟩, rfl⟩)
        case measure => simp [intOf]; omega
    · have ek : k = a.length := by omega
      subst ek
      have HO := hid hown
      have HB := hid hbel
      clear hown hbel
      go_wp2
      go_ret2
      exact ⟨_, rfl, HO.out, HB.out⟩

set_option maxHeartbeats 1000000 in
theorem rjoin_err (u v : Value) (p q : Option Addr) (n m cp cq : Nat) (x y : Bool) (w : World) (hu : u = .slice p n cp) (hv : v = .slice q m cq) (he : (x && y) = true → ¬ n = m)
    (K1 : Calls Try.prog 10 #[u] w fun e w' => e = .returned (.bool x) ∧ w' = w)
    (K2 : Calls Try.prog 10 #[v] w fun e w' => e = .returned (.bool y) ∧ w' = w) :
    Calls Try.prog 12 #[u, v] w fun e w' => e = .returned (.tuple #[.slice none 0 0, .int .i64 (if (x && y) = true then 1 else 4 : Nat)]) ∧ w' = w := by
  subst hu hv
  cases x
  · clear he
    go_enter Try.func12, Try.ntmps12
    go_wp2_with fail
    refine K1.mono ?_
    rintro e w' ⟨rfl, rfl⟩
    go_wp2
    go_ret2
    exact ⟨rfl, rfl⟩
  · cases y
    · clear he
      go_enter Try.func12, Try.ntmps12
      go_wp2_with fail
      refine K1.mono ?_
      rintro e w' ⟨rfl, rfl⟩
      go_wp2_with fail
      refine K2.mono ?_
      rintro e w' ⟨rfl, rfl⟩
      go_wp2
      go_ret2
      exact ⟨rfl, rfl⟩
    · have c := he rfl
      clear he
      have c' : ¬ (n : Int) = (m : Int) := by omega
      go_enter Try.func12, Try.ntmps12
      go_wp2_with fail
      refine K1.mono ?_
      rintro e w' ⟨rfl, rfl⟩
      go_wp2_with fail
      refine K2.mono ?_
      rintro e w' ⟨rfl, rfl⟩
      go_wp2
      go_ret2
      exact ⟨rfl, rfl⟩

theorem cE_no {a b : List Int} (he : ¬ Plain.cE a b = 0) : Plain.cE a b = if (Plain.okC a && Plain.okC b) = true then 1 else 4 := by
  unfold Plain.cE at he ⊢
  split
  · rename_i h
    rw [if_pos h] at he
    split
    · rename_i h'; rw [if_pos h'] at he; exact absurd rfl he
    · rfl
  · rfl

/-- ref.ClockJoin at whatever two slices. -/
theorem rjoin_any (u v : Value) (a b : List Int) (ha : a.length ≤ 9223372036854775807) (hb : b.length ≤ 9223372036854775807) (w : World) (h1 : Seg w u a) (hu : Lies w.heap.size u) (h2 : Seg w v b) (hv : Lies w.heap.size v) :
    Calls Try.prog 12 #[u, v] w fun e w' => ∃ r, e = .returned (.tuple #[r, .int .i64 (Plain.cE a b : Nat)]) ∧ Seg w' r (Plain.jV a b) ∧ Below w.heap.size w w' := by
  have K1 := rmay_any u a ha w h1
  have K2 := rmay_any v b hb w h2
  by_cases he : Plain.cE a b = 0
  · obtain ⟨oa, ob, hlen⟩ := Plain.cE_parts he
    have ha1 := (Plain.okC_iff a).1 oa
    rw [oa] at K1
    rw [ob] at K2
    rcases h1 with ⟨e, _⟩ | ⟨b1, o1, c1, rfl, g1⟩
    · rw [e] at ha1; simp at ha1
    rcases h2 with ⟨e, _⟩ | ⟨b2, o2, c2, rfl, g2⟩
    · rw [e] at hlen; rw [hlen] at ha1; simp at ha1
    rw [he]
    rw [← hlen] at K2 g2 ⊢
    refine (rjoin_two b1 o1 c1 b2 o2 c2 a b (by omega) (by omega) w g1 g2 (hu _ _ _ rfl (by omega)) (hv _ _ _ rfl (by omega)) K1 K2).mono ?_
    rintro e w' ⟨r, rfl, ho, hb⟩
    refine ⟨r, rfl, ?_, hb⟩
    unfold Plain.jV
    rw [if_pos he]
    exact seg_of_owns ho (Plain.joinL_len a b).symm rfl
  · rw [cE_no he]
    obtain ⟨p, cp, hu'⟩ := seg_form h1
    obtain ⟨q, cq, hv'⟩ := seg_form h2
    refine (rjoin_err u v p q _ _ cp cq _ _ w hu' hv' (fun h hn => he ?_) K1 K2).mono ?_
    · unfold Plain.cE; rw [if_pos h, if_pos hn]
    · rintro e w' ⟨rfl, rfl⟩
      refine ⟨_, rfl, ?_, Below.refl _ _⟩
      unfold Plain.jV
      rw [if_neg he]
      exact Seg.nil _
theorem jV_le (a b : List Int) : (Plain.jV a b).length ≤ 1000000 := by
  unfold Plain.jV
  split
  · rename_i h
    have := (Plain.okC_iff a).1 (Plain.cE_parts h).1
    rw [Plain.joinL_len]; omega
  · simp
end Go.Proofs.Ytlckhpfokijknad
