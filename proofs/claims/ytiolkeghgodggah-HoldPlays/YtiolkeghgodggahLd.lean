/-
  A branch's orders: do (written by genld.py).
-/
import Derived.Test.YtiolkeghgodggahLh
import Derived.Test.YtiolkeghgodggahLe
import Derived.Test.YtiolkeghgodggahLt
namespace Go.Proofs.Ytiolkeghgodggah.Hd
open Go.RowKit Go.Shelf Go.Sort

/-- A branch that has what the document's rack has. -/
abbrev BrR (ZZ : Nat → Prop) (R oo : Nat) (XX : Win) (w : World) (vo : Value) (r : Plain.Rk) : Prop := BrI ZZ R oo XX w vo r.free r.used (r.cs.length : Int) (Plain.openF 0 r.cs r.ls)
abbrev boxQ (o : Plain.Or) : Obj := .cells #[.int .i64 o.kind, .int .i64 o.count, .int .i64 o.life, .int .i64 o.id] 44
/-- What an order comes to. -/
def DoPost (ZZ : Nat → Prop) (R oo : Nat) (XX : Win) (r : Plain.Rk) (o : Plain.Or) (w : World) (e : Ending) (w' : World) : Prop :=
  e = .returned (.tuple #[.int .i64 (Plain.ordI r o), .int .i64 (Plain.ordE r o : Nat)]) ∧ (∃ vo', BrR ZZ R oo XX w' vo' (Plain.stepR r o)) ∧ Kp ZZ R w w'
theorem doPost_no {ZZ : Nat → Prop} {R oo : Nat} {XX : Win} {vo : Value} {r : Plain.Rk} {o : Plain.Or} {w w' : World} {E : Nat} (hE : Plain.ordE r o = E) (h0 : E ≠ 0) (h : BrR ZZ R oo XX w' vo r) (g : Kp ZZ R w w') :
    DoPost ZZ R oo XX r o w (.returned (.tuple #[.int .i64 0, .int .i64 (E : Nat)])) w' := by
  have e1 : Plain.ordI r o = 0 := by unfold Plain.ordI; rw [if_neg (fun x => h0 (hE ▸ x.1))]
  refine ⟨by rw [e1, hE], ⟨vo, ?_⟩, g⟩
  rw [Plain.stepR_no (by rw [hE]; exact h0)]
  exact h
theorem doPost_yes {ZZ : Nat → Prop} {R oo : Nat} {XX : Win} {vo : Value} {r r' : Plain.Rk} {o : Plain.Or} {w w' : World} {I : Int} (hE : Plain.ordE r o = 0) (hI : Plain.ordI r o = I) (hr : Plain.ordR r o = r') (h : BrR ZZ R oo XX w' vo r') (g : Kp ZZ R w w') :
    DoPost ZZ R oo XX r o w (.returned (.tuple #[.int .i64 I, .int .i64 0])) w' := by
  refine ⟨by rw [hE, hI]; rfl, ⟨vo, ?_⟩, g⟩
  unfold Plain.stepR
  rw [if_pos hE, hr]
  exact h
namespace Plain
theorem Hv.bdsL {r : Rk} {g : Int} (h : Hv r g) : (0 ≤ r.free ∧ r.free ≤ 1048576) ∧ (0 ≤ r.used ∧ r.used ≤ 1048576) ∧ (0 ≤ heldL r.cs r.ls ∧ heldL r.cs r.ls ≤ 1048576) := by
  have := h.held; have := h.sm; have := h.fr; have := h.us; have := h.gb
  unfold Rk.held at *
  omega
theorem Hv.ptsL {r : Rk} {g : Int} (h : Hv r g) : (∀ p, p ∈ openF 0 r.cs r.ls → 0 ≤ p.count) ∧ (∀ p, p ∈ openF 0 r.cs r.ls → 1 ≤ p.ticks ∧ p.ticks ≤ 20) ∧ (openF 0 r.cs r.ls).length ≤ 4 := by
  have h1 := open_counts 0 r.cs r.ls h.ct h.lf
  have h2 := len_open 0 r.cs r.ls h.ln
  have h3 := h.op
  exact ⟨fun p hp => by have := h1 p hp; omega, fun p hp => (h1 p hp).2, by omega⟩
end Plain

set_option maxHeartbeats 4000000 in
set_option maxRecDepth 100000 in
theorem do_kind (ZZ : Nat → Prop) (R oo : Nat) (XX : Win) (vo : Value) (r : Plain.Rk) (k c l i : Int) (hk : k < 1 ∨ 7 < k) (w : World) (h : BrR ZZ R oo XX w vo r) :
    Calls Try.prog 28 #[.pointer (some ⟨R, oo, none⟩), aggO ⟨k, c, l, i⟩] w fun e w' => DoPost ZZ R oo XX r ⟨k, c, l, i⟩ w e w' := by
  have hE : Plain.ordE r ⟨k, c, l, i⟩ = 3 := by unfold Plain.ordE; rw [if_pos hk]
  obtain ⟨W, hW⟩ : ∃ W, W = w.alloc (boxQ ⟨k, c, l, i⟩) := ⟨_, rfl⟩
  have bel : Below w.heap.size w W := by rw [hW]; exact (Below.refl _ _).alloc (Nat.le_refl _) _
  have HB := hid (BrI.grow h bel)
  have HK := hid (Kp.of_below (ZZ := ZZ) (R := R) bel)
  have KN := fun W => needs_c k W
  rw [show Plain.counted k = false by unfold Plain.counted; rw [decide_eq_false_iff_not]; omega] at KN
  have P := hid (doPost_no (w := w) hE (by decide) HB.out HK.out)
  have b1 : (k == 1) = false := by rw [beq_eq_false_iff_ne]; omega
  have b2 : (k == 2) = false := by rw [beq_eq_false_iff_ne]; omega
  have b3 : (k == 3) = false := by rw [beq_eq_false_iff_ne]; omega
  have b4 : (k == 4) = false := by rw [beq_eq_false_iff_ne]; omega
  have b5 : (k == 5) = false := by rw [beq_eq_false_iff_ne]; omega
  have b6 : (k == 6) = false := by rw [beq_eq_false_iff_ne]; omega
  have b7 : (k == 7) = false := by rw [beq_eq_false_iff_ne]; omega
  clear h hE hk bel
  go_enter Try.func28, Try.ntmps28
  go_wp2_with (first | (go_at_call 33; refine (KN _).mono ?_; rintro e w' ⟨rfl, rfl⟩) | fail)
  go_wp2
  rw [← hW]
  go_ret2
  exact P.out

set_option maxHeartbeats 4000000 in
set_option maxRecDepth 100000 in
theorem do_count (ZZ : Nat → Prop) (R oo : Nat) (XX : Win) (vo : Value) (r : Plain.Rk) (k c l i : Int) (hk : k = 1 ∨ k = 2 ∨ k = 3 ∨ k = 6) (hc : c < 1 ∨ 1048576 < c) (w : World) (h : BrR ZZ R oo XX w vo r) :
    Calls Try.prog 28 #[.pointer (some ⟨R, oo, none⟩), aggO ⟨k, c, l, i⟩] w fun e w' => DoPost ZZ R oo XX r ⟨k, c, l, i⟩ w e w' := by
  have hE : Plain.ordE r ⟨k, c, l, i⟩ = 2 := by
    unfold Plain.ordE
    dsimp only
    rw [if_neg (by omega), if_pos ⟨by unfold Plain.counted; rw [decide_eq_true_iff]; exact hk, hc⟩]
  obtain ⟨W, hW⟩ : ∃ W, W = w.alloc (boxQ ⟨k, c, l, i⟩) := ⟨_, rfl⟩
  have bel : Below w.heap.size w W := by rw [hW]; exact (Below.refl _ _).alloc (Nat.le_refl _) _
  have HB := hid (BrI.grow h bel)
  have HK := hid (Kp.of_below (ZZ := ZZ) (R := R) bel)
  have KN := fun W => needs_c k W
  rw [show Plain.counted k = true by unfold Plain.counted; rw [decide_eq_true_iff]; exact hk] at KN
  have KF := fun W => fromOne_c c 1048576 W
  rw [fromOne_no hc] at KF
  have P := hid (doPost_no (w := w) hE (by decide) HB.out HK.out)
  clear h hE hk hc bel
  go_enter Try.func28, Try.ntmps28
  go_wp2_with (first | (go_at_call 33; refine (KN _).mono ?_; rintro e w' ⟨rfl, rfl⟩) | (go_at_call 34; refine (KF _).mono ?_; rintro e w' ⟨rfl, rfl⟩) | fail)
  rw [← hW]
  go_ret2
  exact P.out

set_option maxHeartbeats 4000000 in
set_option maxRecDepth 100000 in
theorem do_gain (ZZ : Nat → Prop) (R oo : Nat) (XX : Win) (vo : Value) (r : Plain.Rk) (g : Int) (hv : Plain.Hv r g) (c l i : Int) (c1 : 1 ≤ c) (c2 : c ≤ 1048576) (w : World) (h : BrR ZZ R oo XX w vo r) :
    Calls Try.prog 28 #[.pointer (some ⟨R, oo, none⟩), aggO ⟨1, c, l, i⟩] w fun e w' => DoPost ZZ R oo XX r ⟨1, c, l, i⟩ w e w' := by
  have hE : Plain.ordE r ⟨1, c, l, i⟩ = if 1048576 < r.free + r.held + r.used + c then 12 else 0 := by
    unfold Plain.ordE
    dsimp only
    rw [if_neg (by omega), if_neg (fun x => by have := x.2; omega), if_pos rfl]
  have hI : Plain.ordI r ⟨1, c, l, i⟩ = 0 := by unfold Plain.ordI; rw [if_neg (fun x => by have := x.2; dsimp only at this; omega)]
  have hR : Plain.ordR r ⟨1, c, l, i⟩ = { r with free := r.free + c } := by
    unfold Plain.ordR
    dsimp only
    rw [if_pos rfl]
  obtain ⟨hf, hu, hs⟩ := hv.bdsL
  obtain ⟨hp1, hp2, hp3⟩ := hv.ptsL
  obtain ⟨W, hW⟩ : ∃ W, W = w.alloc (boxQ ⟨1, c, l, i⟩) := ⟨_, rfl⟩
  have bel : Below w.heap.size w W := by rw [hW]; exact (Below.refl _ _).alloc (Nat.le_refl _) _
  have HB := hid (BrI.grow h bel)
  have HK := hid (Kp.of_below (ZZ := ZZ) (R := R) bel)
  have KN := fun W => needs_c 1 W
  rw [show Plain.counted 1 = true from rfl] at KN
  have KF := fun W => fromOne_c c 1048576 W
  rw [fromOne_yes (by omega)] at KF
  have KM := hgain_c ZZ R oo XX vo r.free r.used _ c _ hf hu ⟨c1, c2⟩ hp1 (by rw [Plain.sumP_open]; exact hs) (by omega) W HB.out
  rw [Plain.sumP_open] at KM
  obtain ⟨E, hE2⟩ : ∃ E, E = (if 1048576 < r.free + Plain.heldL r.cs r.ls + r.used + c then 12 else 0 : Nat) := ⟨_, rfl⟩
  rw [← hE2] at KM
  have HE := hid (hE.trans hE2.symm)
  have HE2 := hid hE2
  have HIR := hid (And.intro hI hR)
  clear h hE hI hR bel hp1 hp2 hp3 hE2 hv HB hf hu hs
  go_enter Try.func28, Try.ntmps28
  go_wp2_with (first | (go_at_call 33; refine (KN _).mono ?_; rintro e w' ⟨rfl, rfl⟩) | (go_at_call 34; refine (KF _).mono ?_; rintro e w' ⟨rfl, rfl⟩) | fail)
  rw [← hW]
  clear hW
  refine KM.mono ?_
  rintro e w' ⟨rfl, hb, hk⟩
  have HB2 := hid hb
  have HK2 := hid (HK.out.trans hk)
  clear KM hb hk HK KN KF
  go_wp2
  go_ret2
  by_cases hx : 1048576 < r.free + Plain.heldL r.cs r.ls + r.used + c
  · simp only [if_pos hx] at HB2 HE2
    rw [HE2.out] at HE ⊢
    exact doPost_no HE.out (by decide) HB2.out HK2.out
  · simp only [if_neg hx] at HB2 HE2
    rw [HE2.out] at HE ⊢
    exact doPost_yes HE.out HIR.out.1 HIR.out.2 HB2.out HK2.out

set_option maxHeartbeats 4000000 in
set_option maxRecDepth 100000 in
theorem do_sell (ZZ : Nat → Prop) (R oo : Nat) (XX : Win) (vo : Value) (r : Plain.Rk) (g : Int) (hv : Plain.Hv r g) (c l i : Int) (c1 : 1 ≤ c) (c2 : c ≤ 1048576) (w : World) (h : BrR ZZ R oo XX w vo r) :
    Calls Try.prog 28 #[.pointer (some ⟨R, oo, none⟩), aggO ⟨2, c, l, i⟩] w fun e w' => DoPost ZZ R oo XX r ⟨2, c, l, i⟩ w e w' := by
  have hE : Plain.ordE r ⟨2, c, l, i⟩ = if r.free < c then 9 else 0 := by
    unfold Plain.ordE
    dsimp only
    rw [if_neg (by omega), if_neg (fun x => by have := x.2; omega), if_neg (by omega), if_pos rfl]
  have hI : Plain.ordI r ⟨2, c, l, i⟩ = 0 := by unfold Plain.ordI; rw [if_neg (fun x => by have := x.2; dsimp only at this; omega)]
  have hR : Plain.ordR r ⟨2, c, l, i⟩ = { r with free := r.free - c, used := r.used + c } := by
    unfold Plain.ordR
    dsimp only
    rw [if_neg (by omega), if_pos rfl]
  obtain ⟨hf, hu, hs⟩ := hv.bdsL
  obtain ⟨hp1, hp2, hp3⟩ := hv.ptsL
  obtain ⟨W, hW⟩ : ∃ W, W = w.alloc (boxQ ⟨2, c, l, i⟩) := ⟨_, rfl⟩
  have bel : Below w.heap.size w W := by rw [hW]; exact (Below.refl _ _).alloc (Nat.le_refl _) _
  have HB := hid (BrI.grow h bel)
  have HK := hid (Kp.of_below (ZZ := ZZ) (R := R) bel)
  have KN := fun W => needs_c 2 W
  rw [show Plain.counted 2 = true from rfl] at KN
  have KF := fun W => fromOne_c c 1048576 W
  rw [fromOne_yes (by omega)] at KF
  have KM := hsell_c ZZ R oo XX vo r.free r.used _ c _ hf hu ⟨c1, c2⟩ W HB.out
  obtain ⟨E, hE2⟩ : ∃ E, E = (if r.free < c then 9 else 0 : Nat) := ⟨_, rfl⟩
  rw [← hE2] at KM
  have HE := hid (hE.trans hE2.symm)
  have HE2 := hid hE2
  have HIR := hid (And.intro hI hR)
  clear h hE hI hR bel hp1 hp2 hp3 hE2 hv HB hf hu hs
  go_enter Try.func28, Try.ntmps28
  go_wp2_with (first | (go_at_call 33; refine (KN _).mono ?_; rintro e w' ⟨rfl, rfl⟩) | (go_at_call 34; refine (KF _).mono ?_; rintro e w' ⟨rfl, rfl⟩) | fail)
  rw [← hW]
  clear hW
  refine KM.mono ?_
  rintro e w' ⟨rfl, hb, hk⟩
  have HB2 := hid hb
  have HK2 := hid (HK.out.trans hk)
  clear KM hb hk HK KN KF
  go_wp2
  go_ret2
  by_cases hx : r.free < c
  · simp only [if_pos hx] at HB2 HE2
    rw [HE2.out] at HE ⊢
    exact doPost_no HE.out (by decide) HB2.out HK2.out
  · simp only [if_neg hx] at HB2 HE2
    rw [HE2.out] at HE ⊢
    exact doPost_yes HE.out HIR.out.1 HIR.out.2 HB2.out HK2.out

set_option maxHeartbeats 4000000 in
set_option maxRecDepth 100000 in
theorem do_refund (ZZ : Nat → Prop) (R oo : Nat) (XX : Win) (vo : Value) (r : Plain.Rk) (g : Int) (hv : Plain.Hv r g) (c l i : Int) (c1 : 1 ≤ c) (c2 : c ≤ 1048576) (w : World) (h : BrR ZZ R oo XX w vo r) :
    Calls Try.prog 28 #[.pointer (some ⟨R, oo, none⟩), aggO ⟨6, c, l, i⟩] w fun e w' => DoPost ZZ R oo XX r ⟨6, c, l, i⟩ w e w' := by
  have hE : Plain.ordE r ⟨6, c, l, i⟩ = if r.used < c then 9 else 0 := by
    unfold Plain.ordE
    dsimp only
    rw [if_neg (by omega), if_neg (fun x => by have := x.2; omega), if_neg (by omega), if_neg (by omega), if_pos rfl]
  have hI : Plain.ordI r ⟨6, c, l, i⟩ = 0 := by unfold Plain.ordI; rw [if_neg (fun x => by have := x.2; dsimp only at this; omega)]
  have hR : Plain.ordR r ⟨6, c, l, i⟩ = { r with free := r.free + c, used := r.used - c } := by
    unfold Plain.ordR
    dsimp only
    rw [if_neg (by omega), if_neg (by omega), if_pos rfl]
  obtain ⟨hf, hu, hs⟩ := hv.bdsL
  obtain ⟨hp1, hp2, hp3⟩ := hv.ptsL
  obtain ⟨W, hW⟩ : ∃ W, W = w.alloc (boxQ ⟨6, c, l, i⟩) := ⟨_, rfl⟩
  have bel : Below w.heap.size w W := by rw [hW]; exact (Below.refl _ _).alloc (Nat.le_refl _) _
  have HB := hid (BrI.grow h bel)
  have HK := hid (Kp.of_below (ZZ := ZZ) (R := R) bel)
  have KN := fun W => needs_c 6 W
  rw [show Plain.counted 6 = true from rfl] at KN
  have KF := fun W => fromOne_c c 1048576 W
  rw [fromOne_yes (by omega)] at KF
  have KM := hrefund_c ZZ R oo XX vo r.free r.used _ c _ hf hu ⟨c1, c2⟩ W HB.out
  obtain ⟨E, hE2⟩ : ∃ E, E = (if r.used < c then 9 else 0 : Nat) := ⟨_, rfl⟩
  rw [← hE2] at KM
  have HE := hid (hE.trans hE2.symm)
  have HE2 := hid hE2
  have HIR := hid (And.intro hI hR)
  clear h hE hI hR bel hp1 hp2 hp3 hE2 hv HB hf hu hs
  go_enter Try.func28, Try.ntmps28
  go_wp2_with (first | (go_at_call 33; refine (KN _).mono ?_; rintro e w' ⟨rfl, rfl⟩) | (go_at_call 34; refine (KF _).mono ?_; rintro e w' ⟨rfl, rfl⟩) | fail)
  rw [← hW]
  clear hW
  refine KM.mono ?_
  rintro e w' ⟨rfl, hb, hk⟩
  have HB2 := hid hb
  have HK2 := hid (HK.out.trans hk)
  clear KM hb hk HK KN KF
  go_wp2
  go_ret2
  by_cases hx : r.used < c
  · simp only [if_pos hx] at HB2 HE2
    rw [HE2.out] at HE ⊢
    exact doPost_no HE.out (by decide) HB2.out HK2.out
  · simp only [if_neg hx] at HB2 HE2
    rw [HE2.out] at HE ⊢
    exact doPost_yes HE.out HIR.out.1 HIR.out.2 HB2.out HK2.out

set_option maxHeartbeats 4000000 in
set_option maxRecDepth 100000 in
theorem do_hold (ZZ : Nat → Prop) (R oo : Nat) (XX : Win) (vo : Value) (r : Plain.Rk) (g : Int) (hv : Plain.Hv r g) (hm : r.cs.length ≤ 1000) (c l i : Int) (c1 : 1 ≤ c) (c2 : c ≤ 1048576) (w : World) (h : BrR ZZ R oo XX w vo r) :
    Calls Try.prog 28 #[.pointer (some ⟨R, oo, none⟩), aggO ⟨3, c, l, i⟩] w fun e w' => DoPost ZZ R oo XX r ⟨3, c, l, i⟩ w e w' := by
  have hop := Plain.len_open 0 r.cs r.ls hv.ln
  obtain ⟨hf, hu, hs⟩ := hv.bdsL
  obtain ⟨hp1, hp2, hp3⟩ := hv.ptsL
  have hE : Plain.ordE r ⟨3, c, l, i⟩ = Plain.hldE r.free c l (Plain.openF 0 r.cs r.ls).length := by
    unfold Plain.ordE Plain.hldE
    dsimp only
    rw [if_neg (by omega), if_neg (fun x => by have := x.2; omega), if_neg (by omega), if_neg (by omega), if_neg (by omega), if_pos rfl]
    by_cases h1 : l < 1 ∨ 20 < l
    · rw [if_pos h1, if_pos h1]
    · rw [if_neg h1, if_neg h1]
      by_cases h2 : (Plain.openF 0 r.cs r.ls).length = 4
      · rw [if_pos h2, if_pos (by omega)]
      · rw [if_neg h2, if_neg (by omega)]
  have hI : Plain.ordE r ⟨3, c, l, i⟩ = 0 → Plain.ordI r ⟨3, c, l, i⟩ = (r.cs.length : Int) + 1 := fun e => by unfold Plain.ordI; rw [if_pos ⟨e, rfl⟩]
  have hR : Plain.ordR r ⟨3, c, l, i⟩ = { r with free := r.free - c, cs := r.cs ++ [c], ls := r.ls ++ [l] } := by
    unfold Plain.ordR
    dsimp only
    rw [if_neg (by omega), if_neg (by omega), if_neg (by omega), if_pos rfl]
  have hlife : Plain.hldE r.free c l (Plain.openF 0 r.cs r.ls).length = 0 → 0 < l := fun e => by
    unfold Plain.hldE at e
    by_cases h1 : l < 1 ∨ 20 < l
    · rw [if_pos h1] at e; omega
    · omega
  obtain ⟨W, hW⟩ : ∃ W, W = w.alloc (boxQ ⟨3, c, l, i⟩) := ⟨_, rfl⟩
  have bel : Below w.heap.size w W := by rw [hW]; exact (Below.refl _ _).alloc (Nat.le_refl _) _
  have HB := hid (BrI.grow h bel)
  have HK := hid (Kp.of_below (ZZ := ZZ) (R := R) bel)
  have KN := fun W => needs_c 3 W
  rw [show Plain.counted 3 = true from rfl] at KN
  have KF := fun W => fromOne_c c 1048576 W
  rw [fromOne_yes (by omega)] at KF
  have KM := hhold_c ZZ R oo XX vo r.free r.used (r.cs.length : Int) c l (Plain.openF 0 r.cs r.ls) hf ⟨by omega, by omega⟩ ⟨c1, c2⟩ (by omega) W HB.out
  have HLN := hid hv.ln
  obtain ⟨E, hE2⟩ : ∃ E, E = Plain.hldE r.free c l (Plain.openF 0 r.cs r.ls).length := ⟨_, rfl⟩
  rw [← hE2] at KM hlife hE
  have HE := hid hE
  have HIR := hid (And.intro hI hR)
  have HLF := hid hlife
  clear h hE hI hR bel hp1 hp2 hp3 hE2 hv HB hf hu hs hop hlife
  obtain ⟨I, hI⟩ : ∃ I, I = (if E = 0 then (r.cs.length : Int) + 1 else 0) := ⟨_, rfl⟩
  rw [← hI] at KM
  have HI := hid hI
  clear hI
  go_enter Try.func28, Try.ntmps28
  go_wp2_with (first | (go_at_call 33; refine (KN _).mono ?_; rintro e w' ⟨rfl, rfl⟩) | (go_at_call 34; refine (KF _).mono ?_; rintro e w' ⟨rfl, rfl⟩) | fail)
  rw [← hW]
  clear hW
  refine KM.mono ?_
  rintro e w' ⟨rfl, ⟨v', hb⟩, hk⟩
  have HB2 := hid hb
  have HK2 := hid (HK.out.trans hk)
  clear KM hb hk HK KN KF
  go_wp2
  go_ret2
  by_cases hx : E = 0
  · simp only [if_pos hx] at HB2 HI
    rw [HI.out, hx]
    rw [hx] at HE
    refine doPost_yes HE.out (HIR.out.1 HE.out) HIR.out.2 (vo := v') ?_ HK2.out
    show BrI ZZ R oo XX w' v' (r.free - c) r.used ((r.cs ++ [c]).length : Nat) (Plain.openF 0 (r.cs ++ [c]) (r.ls ++ [l]))
    rw [Plain.open_snoc 0 r.cs r.ls c l HLN.out (HLF.out hx)]
    have e1 : ((r.cs ++ [c]).length : Int) = (r.cs.length : Int) + 1 := by simp
    have e2 : ((0 : Nat) : Int) + (r.cs.length : Int) + 1 = (r.cs.length : Int) + 1 := by omega
    rw [e1, e2]
    exact HB2.out
  · simp only [if_neg hx] at HB2 HI
    rw [HI.out]
    exact doPost_no HE.out hx HB2.out HK2.out
end Go.Proofs.Ytiolkeghgodggah.Hd
