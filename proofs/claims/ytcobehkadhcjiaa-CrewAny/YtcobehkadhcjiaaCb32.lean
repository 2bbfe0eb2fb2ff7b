/-
  Goroutines among others: part 32 of what the law's own text rests on.
-/
import Derived.Test.YtcobehkadhcjiaaCb16
import Derived.Test.YtcobehkadhcjiaaCb17
import Derived.Test.YtcobehkadhcjiaaCb18
import Derived.Test.YtcobehkadhcjiaaCb31
/-
  EntriesOf: what it makes lies in blocks of entries.
-/
namespace Go.Proofs.Ytcobehkadhcjiaa
open Go Go.Conc Go.RowKit

/-- A slice of one entry that has just been laid. -/
theorem heldN_one (w : World) (y : Plain.En) : HeldN (w.alloc (boxE y)) (.slice (some ⟨w.heap.size, 0, none⟩) 1 1) [y] :=
  ⟨.inr ⟨w.heap.size, 0, 1, rfl, Nat.le_refl _, fun j hj => by
    obtain rfl : j = 0 := by simp at hj; omega
    exact ⟨by simp [Plain.en], by simp [Plain.en], by simp [Plain.en], by simp [Plain.en], by simp [Plain.en]⟩⟩, by show w.heap.size < (w.alloc (boxE y)).heap.size; simp, fun b o n c e _ => by
    injection e with e1 _ _
    have e3 : w.heap.size = b := congrArg Addr.block (Option.some.inj e1)
    rw [← e3]
    exact ⟨_, Deep.blk_alloc_new w _⟩⟩

theorem mergeSixN (va vb : Value) (a b : List Plain.En) (ha : Plain.Six a) (hb : Plain.Six b) (w : World) (h1 : HeldN w va a) (h2 : HeldN w vb b) :
    Calls Try.prog 34 #[va, vb] w fun e w' => ∃ r, e = .returned (.tuple #[r, .int .i64 0]) ∧ HeldN w' r (Plain.mergeL a b) ∧ Below w.heap.size w w' := by
  have la := ha.len
  have lb := hb.len
  refine (merge_own va vb a b (by omega) (by omega) w h1.seg h1.lies h2.seg h2.lies).mono ?_
  rintro e w' ⟨r, rfl, s, b⟩
  rw [ha.mergeE hb]
  rw [ha.mergeR hb] at s
  exact ⟨r, rfl, ⟨s.seg.1, own_slv s, s.ty⟩, b⟩

set_option maxHeartbeats 4000000 in
set_option maxRecDepth 100000 in
theorem entN_some (l : List Plain.En) (b off c : Nat) (h0 : 0 < l.length) (hl : l.length ≤ 9223372036854775807) (hr : ∀ j, j < l.length → InE (Plain.en l j)) (w : World) (hb : b < w.heap.size) (hc : CellsN w b off l) :
    Calls Try.prog 13 #[.slice (some ⟨b, off, none⟩) l.length c] w fun e w' =>
      ∃ r, e = .returned (.tuple #[r, .bool true]) ∧ HeldN w' r (Plain.eofs l (Plain.noteN l)) ∧ Below w.heap.size w w' := by
  have HC := hid hc
  have HR := hid hr
  clear hc hr
  go_enter Try.func13, Try.ntmps13
  go_wp2
  go_loopw [4, 5] (fun vo i wx => ∃ k : Nat, k ≤ l.length ∧ k ≤ 30 ∧ i = .int .i64 k ∧ HeldN wx vo (Plain.eofs l k) ∧ Below w.heap.size w wx) (fun _ i _ => 30 - (intOf i).toNat)
  case atStart => exact ⟨0, Nat.zero_le _, Nat.zero_le _, rfl, by rw [Plain.eofs_zero]; exact heldN_nil _, Below.refl _ _⟩
  case round =>
    obtain ⟨k, hk, hk30, rfl, hH, hbel⟩ := hrel
    by_cases hlt : k < l.length ∧ k < 30
    · obtain ⟨hlt1, hlt2⟩ := hlt
      have hlt1' : (k : Int) < (l.length : Int) := by omega
      have hlt2' : (k : Int) < 30 := by omega
      obtain ⟨c0, c1, c2, c3, c4⟩ := (HC.out k hlt1).below hbel hb
      have K1 := fun W => entryOf_c (Plain.en l k) (HR.out k hlt1) W
      have HS := hid (Plain.eofs_succ l k hlt1)
      have H6 := hid (Plain.eofs_six l k hk)
      have HE6 := hid (Plain.eof_six (Plain.en l k))
      generalize Plain.eofs l k = M at hH HS H6
      generalize hy : Plain.en l k = y at c0 c1 c2 c3 c4 K1 HS HE6
      clear hy
      generalize Plain.eof y = z at K1 HS HE6
      have HH := hid hH
      have HB := hid hbel
      clear hH hbel
      go_wp2_with fail
      refine (K1 _).mono ?_
      rintro e w1 ⟨rfl, b1⟩
      have K2 := mergeSixN u4 _ M [z] H6.out HE6.out (w1.alloc (boxE z)) ((HH.out.grow b1).grow ((Below.refl _ _).alloc (Nat.le_refl _) _)) (heldN_one w1 z)
      have HB1 := hid (show Below w.heap.size w (w1.alloc (boxE z)) from (HB.out.trans (b1.mono HB.out.size)).alloc (Nat.le_trans HB.out.size b1.size) _)
      clear b1 c0 c1 c2 c3 c4 K1
      go_wp2_with fail
      refine K2.mono ?_
      rintro e w2 ⟨r2, rfl, s2, b2⟩
      have S2 := hid s2
      have HB2 := hid (HB1.out.trans (b2.mono HB1.out.size))
      clear s2 b2 K2
      go_wp2
      go_roundw
      case rel => exact ⟨k + 1, by omega, by omega, by go_num, by rw [HS.out]; exact S2.out, HB2.out⟩
      case measure => simp [intOf]; omega
    · have ek : k = Plain.noteN l := by unfold Plain.noteN; omega
      have H6 := hid (Plain.eofs_six l k hk)
      have HF := hid (show Plain.eofs l (Plain.noteN l) = Plain.eofs l k by rw [ek])
      have hcs : ¬ (k : Int) < (l.length : Int) ∨ ((k : Int) < (l.length : Int) ∧ ¬ (k : Int) < 30) := by omega
      clear ek
      generalize Plain.eofs l k = M at hH H6 HF
      have K3 := may_any u4 M (by have := H6.out.len; omega) wr hH.seg hH.lies
      rw [H6.out.mayL] at K3
      have HH := hid hH
      have HB := hid hbel
      clear hH hbel hlt
      rcases hcs with h1 | ⟨h1, h2⟩
      all_goals
        go_wp2_with fail
        refine K3.mono ?_
        rintro e w1 ⟨rfl, b1⟩
        have HH1 := hid (HH.out.grow b1)
        have HB1 := hid (HB.out.trans (b1.mono HB.out.size))
        clear b1 K3
        go_wp2
        go_ret2
        exact ⟨_, rfl, by rw [HF.out]; exact HH1.out, HB1.out⟩

set_option maxHeartbeats 1000000 in
theorem entN_nil (p : Option Addr) (c : Nat) (w : World) :
    Calls Try.prog 13 #[.slice p 0 c] w fun e w' => e = .returned (.tuple #[.slice none 0 0, .bool true]) ∧ Below w.heap.size w w' := by
  have K3 := may_any (.slice none 0 0) [] (by simp) w (SegN.nil w) (lies_nil _ _ _)
  have e0 : Plain.mayL [] = true := rfl
  rw [e0] at K3
  clear e0
  go_enter Try.func13, Try.ntmps13
  go_wp2
  refine wp_loop_rounds 1 ?_
  rw [rounds_succ]
  go_wp2_with fail
  refine K3.mono ?_
  rintro e w1 ⟨rfl, b1⟩
  go_wp2
  go_ret2
  exact ⟨rfl, b1⟩

theorem entN_any (v : Value) (l : List Plain.En) (hl : l.length ≤ 9223372036854775807) (hr : ∀ j, j < l.length → InE (Plain.en l j)) (w : World) (hs : SegN w v l) (hy : Lies w.heap.size v) :
    Calls Try.prog 13 #[v] w fun e w' =>
      ∃ r, e = .returned (.tuple #[r, .bool true]) ∧ HeldN w' r (Plain.eofs l (Plain.noteN l)) ∧ Below w.heap.size w w' := by
  by_cases h0 : 0 < l.length
  · obtain ⟨b, off, c, rfl, _, hc⟩ := hs.some h0
    exact entN_some l b off c h0 hl hr w (hy ⟨b, off, none⟩ _ _ rfl h0) hc
  · obtain rfl : l = [] := List.length_eq_zero_iff.1 (by omega)
    obtain ⟨p, c, rfl, _⟩ := hs.form
    exact (entN_nil p c w).mono fun e w' ⟨h1, h2⟩ => ⟨_, h1, heldN_nil _, h2⟩
end Go.Proofs.Ytcobehkadhcjiaa
