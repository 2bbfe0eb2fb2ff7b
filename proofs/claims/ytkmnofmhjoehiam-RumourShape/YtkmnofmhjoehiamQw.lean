/-
  keep: StoreOf.
-/
import Derived.Test.YtkmnofmhjoehiamQd
import Derived.Test.YtkmnofmhjoehiamEh
namespace Go.Proofs.Ytkmnofmhjoehiam
open Go.RowKit Go.Shelf
namespace Plain
/-- The entries that notes come to. -/
def ents (l : List En) : List En := eofs l (noteN l)
theorem eofs_mem (l : List En) (i : Nat) {x : En} (h : x ∈ eofs l i) : ∃ n, x = eof n := by
  unfold eofs at h
  have key : ∀ (m : List En) (acc : List En), (∀ y ∈ acc, ∃ n, y = eof n) → (∀ y ∈ m, ∃ n, y = eof n) → ∀ y ∈ m.foldl put acc, ∃ n, y = eof n := by
    intro m
    induction m with
    | nil => intro acc ha _ y hy; exact ha y hy
    | cons z m ih =>
      intro acc ha hm y hy
      refine ih (put acc z) (fun u hu => ?_) (fun u hu => hm u (List.mem_cons_of_mem _ hu)) y hy
      rcases put_mem hu with rfl | h1
      · exact hm _ List.mem_cons_self
      · exact ha u h1
  exact key _ [] (by simp) (fun y hy => by obtain ⟨n, _, rfl⟩ := List.mem_map.1 hy; exact ⟨n, rfl⟩) x h
theorem ents_six (l : List En) : Six (ents l) := eofs_six l _ (Nat.min_le_left _ _)
theorem ents_may (l : List En) : mayL (ents l) = true := (ents_six l).mayL
theorem ents_fit (l : List En) : (ents l).all fitE = true := by
  rw [List.all_eq_true]
  intro e he
  obtain ⟨n, rfl⟩ := eofs_mem l _ he
  have h6 := eof_low n
  have hv : (eof n).value ≤ 255 := by
    unfold eof
    dsimp only
    split <;> omega
  unfold fitE
  rw [decide_eq_true (by omega), decide_eq_true hv]
  rfl
end Plain
set_option maxHeartbeats 4000000 in
theorem store_c (v0 v1 v2 : Value) (l0 l1 l2 : List Plain.En) (h0 : l0.length ≤ 9223372036854775807) (h1 : l1.length ≤ 9223372036854775807) (h2 : l2.length ≤ 9223372036854775807)
    (r0 : ∀ j, j < l0.length → InE (Plain.en l0 j)) (r1 : ∀ j, j < l1.length → InE (Plain.en l1 j)) (r2 : ∀ j, j < l2.length → InE (Plain.en l2 j)) (w : World)
    (s0 : SegN w v0 l0) (y0 : Lies w.heap.size v0) (s1 : SegN w v1 l1) (y1 : Lies w.heap.size v1) (s2 : SegN w v2 l2) (y2 : Lies w.heap.size v2) :
    Calls Try.prog 6 #[v0, v1, v2] w fun e w' => ∃ T, e = .returned (.tuple #[.slice (some ⟨T, 0, none⟩) 3 3, .bool true]) ∧ SegLs w' (.slice (some ⟨T, 0, none⟩) 3 3) [Plain.ents l0, Plain.ents l1, Plain.ents l2] ∧ Below w.heap.size w w' := by
  have K0 := entriesOf_any v0 l0 h0 r0 w s0 y0
  have K1 := hid (fun (X : World) (b : Below w.heap.size w X) => entriesOf_any v1 l1 h1 r1 X (s1.below b y1) (y1.mono b.size))
  have K2 := hid (fun (X : World) (b : Below w.heap.size w X) => entriesOf_any v2 l2 h2 r2 X (s2.below b y2) (y2.mono b.size))
  clear s0 y0 s1 y1 s2 y2 r0 r1 r2
  go_enter Try.func6, Try.ntmps6
  go_wp2_with fail
  refine K0.mono ?_
  rintro e w1 ⟨u0, rfl, g0, b1⟩
  have G0 := hid g0
  have B1 := hid b1
  clear K0 g0 b1
  go_wp2_with fail
  refine (K1.out w1 B1.out).mono ?_
  rintro e w2 ⟨u1, rfl, g1, b2⟩
  have G0' := hid (G0.out.grow b2)
  have G1 := hid g1
  have B2 := hid (B1.out.trans (b2.mono B1.out.size))
  clear K1 g1 b2 G0 B1
  go_wp2_with fail
  refine (K2.out w2 B2.out).mono ?_
  rintro e w3 ⟨u2, rfl, g2, b3⟩
  have G0 := hid (G0'.out.grow b3)
  have G1' := hid (G1.out.grow b3)
  have G2 := hid g2
  have B3 := hid (B2.out.trans (b3.mono B2.out.size))
  clear K2 g2 b3 G0' G1 B2
  have R := hid (show SegLs (w3.alloc (.cells #[u0, u1, u2] 31)) (.slice (some ⟨w3.heap.size, 0, none⟩) 3 3) [Plain.ents l0, Plain.ents l1, Plain.ents l2] by
    have bb : Below w3.heap.size w3 (w3.alloc (.cells #[u0, u1, u2] 31)) := (Below.refl _ _).alloc (Nat.le_refl _) _
    have el : ∀ (u : Value) (l : List Plain.En), Held w3 u (Plain.ents l) → ElL (w3.alloc (.cells #[u0, u1, u2] 31)) u (Plain.ents l) := fun u l h =>
      ⟨(h.grow bb).seg, (h.grow bb).lies, by have := (Plain.ents_six l).len; omega⟩
    refine ⟨by show 3 ≤ _; decide, some ⟨w3.heap.size, 0, none⟩, 3, rfl, fun _ => ⟨w3.heap.size, 0, rfl, by simp, fun j hj => ?_⟩⟩
    have : j = 0 ∨ j = 1 ∨ j = 2 := by have : j < 3 := hj; omega
    rcases this with rfl | rfl | rfl
    · exact ⟨u0, by rw [World.cell?_alloc_at _ _ _ _ rfl]; rfl, el u0 l0 G0.out⟩
    · exact ⟨u1, by rw [World.cell?_alloc_at _ _ _ _ rfl]; rfl, el u1 l1 G1'.out⟩
    · exact ⟨u2, by rw [World.cell?_alloc_at _ _ _ _ rfl]; rfl, el u2 l2 G2.out⟩)
  have RB := hid (B3.out.alloc B3.out.size (.cells #[u0, u1, u2] 31))
  obtain ⟨q0, d0, rfl, _⟩ := G0.out.seg.form
  obtain ⟨q1, d1, rfl, _⟩ := G1'.out.seg.form
  obtain ⟨q2, d2, rfl, _⟩ := G2.out.seg.form
  clear G0 G1' G2 B3
  go_wp2
  go_ret2
  exact ⟨_, rfl, R.out, RB.out⟩
end Go.Proofs.Ytkmnofmhjoehiam
