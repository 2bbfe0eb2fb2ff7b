/-
  A branch's end of a hold.
-/
import Derived.Test.YtiolkeghgodggahLo
import Derived.Test.YtiolkeghgodggahLz
namespace Go.Proofs.Ytiolkeghgodggah.Hd
open Go.RowKit Go.Shelf Go.Sort

abbrev boxI (i : Int) : Obj := .cells #[.int .i64 i] 3
theorem fromOne_no {i m : Int} (h : i < 1 ∨ m < i) : (decide (1 ≤ i) && decide (i ≤ m)) = false := by
  rcases h with x | x
  · have : ¬ 1 ≤ i := by omega
    simp [this]
  · have : ¬ i ≤ m := by omega
    simp [this]
theorem fromOne_yes {i m : Int} (h : ¬ (i < 1 ∨ m < i)) : (decide (1 ≤ i) && decide (i ≤ m)) = true := by
  have h1 : 1 ≤ i := by omega
  have h2 : i ≤ m := by omega
  simp [h1, h2]

set_option maxHeartbeats 2000000 in
set_option maxRecDepth 100000 in
/-- There was no such hold. -/
theorem end_none (ZZ : Nat → Prop) (R oo : Nat) (XX : Win) (vo : Value) (f u m i : Int) (l : List Plain.Pt) (hi : i < 1 ∨ m < i) (w : World) (h : BrI ZZ R oo XX w vo f u m l) :
    Calls Try.prog 38 #[.pointer (some ⟨R, oo, none⟩), .int .i64 i] w fun e w' => e = .returned (.tuple #[.int .i64 0, .int .i64 6]) ∧ BrI ZZ R oo XX w' vo f u m l ∧ Kp ZZ R w w' := by
  obtain ⟨W, hW⟩ : ∃ W, W = w.alloc (boxI i) := ⟨_, rfl⟩
  have bel : Below w.heap.size w W := by rw [hW]; exact (Below.refl _ _).alloc (Nat.le_refl _) _
  have HB := hid (h.grow bel)
  have HK := hid (Kp.of_below (ZZ := ZZ) (R := R) bel)
  have KF := fun q => fromOne_c i m (W.drewN q)
  rw [fromOne_no hi] at KF
  have r3 := HB.out.c3
  have x0 : W.cell? ⟨w.heap.size, 0, none⟩ = some (.int .i64 i) := by rw [hW, World.cell?_alloc_at _ _ _ _ rfl]; rfl
  clear h bel hi
  go_enter Try.func38, Try.ntmps38
  go_wp2
  rw [← hW]
  clear hW
  go_quiet ((go_at_call 34; exact Calls.quiet_of_same (KF _)))
  go_wp2
  go_ret2
  exact ⟨rfl, HB.out.drewN _, HK.out.trans (Kp.of_below (below_drewN (Below.refl _ _) _))⟩

set_option maxHeartbeats 2000000 in
set_option maxRecDepth 100000 in
/-- It is not open any more. -/
theorem end_old (ZZ : Nat → Prop) (R oo : Nat) (XX : Win) (vo : Value) (f u m i : Int) (l : List Plain.Pt) (hb : l.length ≤ 1000) (hi : ¬ (i < 1 ∨ m < i)) (hl : ∀ p, p ∈ l → p.id ≠ i) (w : World) (h : BrI ZZ R oo XX w vo f u m l) :
    Calls Try.prog 38 #[.pointer (some ⟨R, oo, none⟩), .int .i64 i] w fun e w' => e = .returned (.tuple #[.int .i64 0, .int .i64 10]) ∧ BrI ZZ R oo XX w' vo f u m l ∧ Kp ZZ R w w' := by
  have hmf : ∀ (fn : Fn) (first cap : Array Value) (w : World), (Instr.makeFunc fn first cap).run Try.prog w = .ok (.func fn first cap) w := fun _ _ _ _ => rfl
  obtain ⟨W, hW⟩ : ∃ W, W = w.alloc (boxI i) := ⟨_, rfl⟩
  have bel : Below w.heap.size w W := by rw [hW]; exact (Below.refl _ _).alloc (Nat.le_refl _) _
  have HB := hid (h.grow bel)
  have HK := hid (Kp.of_below (ZZ := ZZ) (R := R) bel)
  have KF := fun q => fromOne_c i m (W.drewN q)
  rw [fromOne_yes hi] at KF
  have hlt : w.heap.size < W.heap.size := by rw [hW]; simp
  have x0 : W.cell? ⟨w.heap.size, 0, none⟩ = some (.int .i64 i) := by rw [hW, World.cell?_alloc_at _ _ _ _ rfl]; rfl
  obtain ⟨p0, cp, evo, _, _, hf⟩ := ownP_form HB.out.ow
  have hr : Plain.Found (Plain.isNamed i) l (-1) := .inl ⟨rfl, fun j hj => by
    unfold Plain.isNamed
    rw [beq_eq_false_iff_ne]
    exact hl _ (by rw [Plain.getD_el l j hj]; exact List.getElem_mem _)⟩
  have KI := fun q => namedIndex_c i w.heap.size p0 l.length cp l (W.drewN q) rfl hb hlt (by simpa using x0) (-1) hr (fun h0 => by
    obtain ⟨g, e, _, hg, hc, _⟩ := hf h0
    exact ⟨g, 0, e, hg, fun j hj => by
      obtain ⟨a1, a2, a3⟩ := hc j hj
      rw [Nat.zero_add]
      exact ⟨by simpa using a1, by simpa using a2, by simpa using a3⟩⟩)
  have r3 := HB.out.c3
  have r2 := HB.out.c2
  rw [evo] at r2
  clear h bel hi hl hr hf evo
  generalize l.length = n at *
  go_enter Try.func38, Try.ntmps38
  go_wp2
  rw [← hW]
  clear hW
  go_quiet ((go_at_call 34; exact Calls.quiet_of_same (KF _)))
  have K1 := KI nq
  obtain ⟨W2, hW2⟩ : ∃ W2, W2 = W.drewN nq := ⟨_, rfl⟩
  rw [← hW2] at K1 ⊢
  have r2' : W2.cell? ⟨R, oo + 2, none⟩ = some (.slice p0 n cp) := by rw [hW2]; simpa using r2
  have HB2 := hid (show BrI ZZ R oo XX W2 vo f u m l by rw [hW2]; exact HB.out.drewN _)
  have HK2 := hid (show Kp ZZ R w W2 by rw [hW2]; exact HK.out.trans (Kp.of_below (below_drewN (Below.refl _ _) _)))
  clear hW2 r2 r3 x0 KF KI HB HK
  go_wp2_with fail
  refine K1.mono ?_
  rintro e W3 ⟨rfl, b3⟩
  have HB3 := hid (HB2.out.grow b3)
  have HK3 := hid (HK2.out.trans (Kp.of_below b3))
  clear K1 b3 r2' HB2 HK2
  go_wp2
  go_ret2
  exact ⟨rfl, HB3.out, HK3.out⟩

set_option maxHeartbeats 2000000 in
set_option maxRecDepth 100000 in
/-- It ends. -/
theorem end_ok (ZZ : Nat → Prop) (R oo : Nat) (XX : Win) (vo : Value) (f u m i : Int) (l : List Plain.Pt) (k : Nat) (hb : l.length ≤ 1000) (hi : ¬ (i < 1 ∨ m < i)) (hk : k < l.length) (hid0 : (l.getD k default).id = i) (hl : ∀ j, j < k → (l.getD j default).id ≠ i) (w : World) (h : BrI ZZ R oo XX w vo f u m l) :
    Calls Try.prog 38 #[.pointer (some ⟨R, oo, none⟩), .int .i64 i] w fun e w' => e = .returned (.tuple #[.int .i64 (l.getD k default).count, .int .i64 0]) ∧ (∃ vo', BrI ZZ R oo XX w' vo' f u m (l.eraseIdx k)) ∧ Kp ZZ R w w' := by
  obtain ⟨y, hy⟩ : ∃ y, y = (l.getD k default).count := ⟨_, rfl⟩
  rw [← hy]
  have HY := hid hy
  clear hy
  have hmf : ∀ (fn : Fn) (first cap : Array Value) (w : World), (Instr.makeFunc fn first cap).run Try.prog w = .ok (.func fn first cap) w := fun _ _ _ _ => rfl
  obtain ⟨W, hW⟩ : ∃ W, W = w.alloc (boxI i) := ⟨_, rfl⟩
  have bel : Below w.heap.size w W := by rw [hW]; exact (Below.refl _ _).alloc (Nat.le_refl _) _
  have HB := hid (h.grow bel)
  have HK := hid (Kp.of_below (ZZ := ZZ) (R := R) bel)
  have KF := fun q => fromOne_c i m (W.drewN q)
  rw [fromOne_yes hi] at KF
  have hlt : w.heap.size < W.heap.size := by rw [hW]; simp
  have x0 : W.cell? ⟨w.heap.size, 0, none⟩ = some (.int .i64 i) := by rw [hW, World.cell?_alloc_at _ _ _ _ rfl]; rfl
  obtain ⟨p0, cp, evo, _, _, hf⟩ := ownP_form HB.out.ow
  obtain ⟨g, rfl, hge, hg, hc, _⟩ := hf (by omega)
  have hr : Plain.Found (Plain.isNamed i) l k := .inr ⟨k, hk, rfl, by unfold Plain.isNamed; rw [beq_iff_eq]; exact hid0, fun j hj => by
    unfold Plain.isNamed
    rw [beq_eq_false_iff_ne]
    exact hl j hj⟩
  have KI := fun q => namedIndex_c i w.heap.size (some ⟨g, 0, none⟩) l.length cp l (W.drewN q) rfl hb hlt (by simpa using x0) k hr (fun h0 =>
    ⟨g, 0, rfl, hg, fun j hj => by
      obtain ⟨a1, a2, a3⟩ := hc j hj
      rw [Nat.zero_add]
      exact ⟨by simpa using a1, by simpa using a2, by simpa using a3⟩⟩)
  have r3 := HB.out.c3
  have r2 := HB.out.c2
  rw [evo] at r2
  subst evo
  clear h bel hi hl hr hf hc hid0
  obtain ⟨n, hn⟩ : ∃ n, n + 1 = l.length := ⟨l.length - 1, by omega⟩
  obtain ⟨N, hN⟩ : ∃ N, N = l.length := ⟨_, rfl⟩
  have HN := hid hN
  have HN1 := hid (show N = n + 1 by rw [hN, hn])
  rw [← hN] at HB KI r2 hb hk
  clear hN hn
  obtain ⟨J, hJ⟩ : ∃ J, J = k + 1 := ⟨_, rfl⟩
  have HJ := hid hJ
  have hkz : (k : Int) + 1 = (J : Int) := by omega
  clear hJ
  have hkN : (k : Int) < (N : Int) := by omega
  have hk0 : ¬ (k : Int) < 0 := by omega
  go_enter Try.func38, Try.ntmps38
  go_wp2
  rw [← hW]
  clear hW
  go_quiet ((go_at_call 34; exact Calls.quiet_of_same (KF _)))
  have K1 := KI nq
  obtain ⟨W2, hW2⟩ : ∃ W2, W2 = W.drewN nq := ⟨_, rfl⟩
  rw [← hW2] at K1 ⊢
  have r2' : W2.cell? ⟨R, oo + 2, none⟩ = some (.slice (some ⟨g, 0, none⟩) N cp) := by rw [hW2]; simpa using r2
  have HB2 := hid (show BrI ZZ R oo XX W2 (.slice (some ⟨g, 0, none⟩) N cp) f u m l by rw [hW2]; exact HB.out.drewN _)
  have HK2 := hid (show Kp ZZ R w W2 by rw [hW2]; exact HK.out.trans (Kp.of_below (below_drewN (Below.refl _ _) _)))
  clear hW2 r2 r3 x0 KF KI HB HK
  go_wp2_with fail
  refine K1.mono ?_
  rintro e W3 ⟨rfl, b3⟩
  have HB3 := hid (HB2.out.grow b3)
  have HK3 := hid (HK2.out.trans (Kp.of_below b3))
  clear K1 b3 r2' HB2 HK2
  have r2 := HB3.out.c2
  have hcc := ownP_form HB3.out.ow
  obtain ⟨p', c', e', _, _, hf'⟩ := hcc
  obtain ⟨g', e'', _, _, hc', _⟩ := hf' (by rw [← HN.out]; omega)
  rw [e''] at e'
  simp only [Value.slice.injEq, Option.some.injEq, Addr.mk.injEq, and_true] at e'
  obtain ⟨rfl, en1, en2⟩ := e'
  obtain ⟨x0, x1, x2⟩ := hc' k (by rw [← HN.out]; exact hk)
  clear hf' hc' e'' en1 en2 x0 x2
  have KD := delete_c g n N cp 0 k J l HN1.out HJ.out HN.out.symm (by have := HN1.out; omega) W3 HB3.out.ow
  rw [← HY.out] at x1
  go_wp2_with fail
  refine KD.mono ?_
  rintro e W4 ⟨rfl, o4, g4⟩
  have rowU : W4.rowIs R XX.t XX.n (XX.f oo 4 (brF f u (.slice (some ⟨g, 0, none⟩) N cp) m)) := HB3.out.row.of_block (g4.block _ HB3.out.row.lt (fun e => HB3.out.nown e.symm))
  have u2 := Win.cell rowU HB3.out.le (i := 2) (by omega)
  have uf := rowU.frozen (oo + 2)
  have Q4 := hid (HB3.out.put rowU o4 (fun x hx => HB3.out.own x (by simpa [Value.ownBlock] using hx)) g4.size)
  have QK := hid (HK3.out.trans ((Kp.grown HB3.out.own g4).trans (Kp.setR (ZZ := ZZ) (R := R) (oo + 2) (.slice (some ⟨g, 0, none⟩) n cp))))
  clear KD o4 g4 rowU HB3 HK3 r2 x1
  go_wp2
  go_ret2
  exact ⟨rfl, ⟨_, Q4.out⟩, QK.out⟩
end Go.Proofs.Ytiolkeghgodggah.Hd
