/-
  A branch's Hold: one more is open.
-/
import Derived.Test.YtiolkeghgodggahLo
import Derived.Test.YtiolkeghgodggahLz
namespace Go.Proofs.Ytiolkeghgodggah.Hd
open Go.RowKit Go.Shelf Go.Sort

theorem BrI.snoc {ZZ : Nat → Prop} {R oo : Nat} {XX : Win} {W : World} {vo : Value} {f u m : Int} {l : List Plain.Pt} (h : BrI ZZ R oo XX W vo f u m l) (hb : l.length ≤ 1000) (x : Plain.Pt) :
    ∃ p c U, (Builtin.append_ #[48, 48] 48 #[vo, .slice (some ⟨W.heap.size, 0, none⟩) 1 1]).run Try.prog (W.alloc (boxP x)).drew = .ok (.slice p (l.length + 1) c) U ∧
      U.cell? ⟨R, oo + 2, none⟩ = some vo ∧ U.frozen? ⟨R, oo + 2, none⟩ = false ∧ BrI ZZ R oo XX (U.setCell ⟨R, oo + 2, none⟩ (.slice p (l.length + 1) c)) (.slice p (l.length + 1) c) f u m (l ++ [x]) ∧ Kp ZZ R W (U.setCell ⟨R, oo + 2, none⟩ (.slice p (l.length + 1) c)) := by
  obtain ⟨j0, ji, jz0, jz1, jz2⟩ := info_parts Try.infoPart
  have bel : Below W.heap.size W (W.alloc (boxP x)).drew := ((Below.refl _ _).alloc (Nat.le_refl _) _).drew
  have h1 := h.grow bel
  have hone : encP.Holds (W.alloc (boxP x)).drew (some ⟨W.heap.size, 0, none⟩) [x] := Enc.Holds.drew (Enc.one_holds (E := encP) W x 73) 1
  obtain ⟨v', U, e1, e2, e3, e4⟩ := Enc.appW (E := encP) (m := 1) (c := 1) Try.underlying48 ji jz0 jz1 jz2 rfl h1.ow hone rfl (fun e => by cases e) (by omega) (by omega) (Nat.zero_le _)
  obtain ⟨p, c, rfl, _⟩ := Enc.owns e2 (by simp)
  have rowU : U.rowIs R XX.t XX.n (XX.f oo 4 (brF f u vo m)) := h1.row.of_block (e3.block _ h1.row.lt (fun e => h1.nown e.symm))
  refine ⟨p, c, U, e1, Win.cell rowU h.le (i := 2) (by omega), rowU.frozen (oo + 2), h.put rowU ?_ (fun g hg => (e4 g hg).elim (h1.own g) (fun e => h1.up g (by omega))) (Nat.le_trans bel.size e3.size), (Kp.of_below bel).trans ((Kp.grown h1.own e3).trans (Kp.setR _ _))⟩
  show World.ownsRow _ _ _ _ _ (l ++ [x]).length _
  rw [List.length_append]
  exact e2
namespace Plain
def hldE (f c life : Int) (n : Nat) : Nat := if life < 1 ∨ 20 < life then 2 else if n = 4 then 8 else if f < c then 9 else 0
end Plain

set_option maxHeartbeats 4000000 in
set_option maxRecDepth 100000 in
/-- Hold. -/
theorem hhold_c (ZZ : Nat → Prop) (R oo : Nat) (XX : Win) (vo : Value) (f u m c life : Int) (l : List Plain.Pt) (hf : 0 ≤ f ∧ f ≤ 1048576) (hm : 0 ≤ m ∧ m ≤ 1000) (hc : 1 ≤ c ∧ c ≤ 1048576) (hb : l.length ≤ 1000) (w : World) (h : BrI ZZ R oo XX w vo f u m l) :
    Calls Try.prog 37 #[.pointer (some ⟨R, oo, none⟩), .int .i64 c, .int .i64 life] w fun e w' =>
      e = .returned (.tuple #[.int .i64 (if Plain.hldE f c life l.length = 0 then m + 1 else 0), .int .i64 (Plain.hldE f c life l.length : Nat)]) ∧
      (∃ vo', BrI ZZ R oo XX w' vo' (if Plain.hldE f c life l.length = 0 then f - c else f) u (if Plain.hldE f c life l.length = 0 then m + 1 else m) (if Plain.hldE f c life l.length = 0 then l ++ [⟨m + 1, c, life⟩] else l)) ∧ Kp ZZ R w w' := by
  obtain ⟨E, hE⟩ : ∃ E, E = Plain.hldE f c life l.length := ⟨_, rfl⟩
  rw [← hE]
  unfold Plain.hldE at hE
  have KF := fun W => fromOne_c life 20 W
  obtain ⟨f1, f2⟩ := hf
  obtain ⟨m1, m2⟩ := hm
  obtain ⟨c1, c2⟩ := hc
  have HB := hid h
  by_cases hl : life < 1 ∨ 20 < life
  · rw [if_pos hl] at hE
    subst hE
    have e : (decide (1 ≤ life) && decide (life ≤ 20)) = false := by
      rcases hl with x | x
      · have : ¬ 1 ≤ life := by omega
        simp [this]
      · have : ¬ life ≤ 20 := by omega
        simp [this]
    rw [e] at KF
    clear e hl h
    go_enter Try.func37, Try.ntmps37
    go_wp2_with (go_at_call 34; refine (KF _).mono ?_; rintro e w' ⟨rfl, rfl⟩)
    go_ret2
    exact ⟨rfl, ⟨vo, HB.out⟩, Kp.refl _ _ _⟩
  rw [if_neg hl] at hE
  have e : (decide (1 ≤ life) && decide (life ≤ 20)) = true := by
    have h1 : 1 ≤ life := by omega
    have h2 : life ≤ 20 := by omega
    simp [h1, h2]
  rw [e] at KF
  obtain ⟨p0, cp, evo, _⟩ := ownP_form h.ow
  have r2 := h.c2
  have r0 := h.c0
  have r3 := h.c3
  have z0 := h.row.frozen oo
  have z3 := h.row.frozen (oo + 3)
  rw [evo] at r2
  have HEV := hid evo
  clear e hl h evo
  obtain ⟨n, hn⟩ : ∃ n, n = l.length := ⟨_, rfl⟩
  rw [← hn] at hE r2 HEV hb
  have HN := hid hn
  clear hn
  by_cases h4 : n = 4
  · rw [if_pos h4] at hE
    subst hE
    have b4 : ((n : Int) == 4) = true := by rw [beq_iff_eq]; omega
    go_enter Try.func37, Try.ntmps37
    go_wp2_with (go_at_call 34; refine (KF _).mono ?_; rintro e w' ⟨rfl, rfl⟩)
    go_ret2
    exact ⟨rfl, ⟨vo, HB.out⟩, Kp.refl _ _ _⟩
  rw [if_neg h4] at hE
  have b4 : ((n : Int) == 4) = false := by rw [beq_eq_false_iff_ne]; omega
  by_cases hlt : f < c
  · rw [if_pos hlt] at hE
    subst hE
    go_enter Try.func37, Try.ntmps37
    go_wp2_with (go_at_call 34; refine (KF _).mono ?_; rintro e w' ⟨rfl, rfl⟩)
    go_ret2
    exact ⟨rfl, ⟨vo, HB.out⟩, Kp.refl _ _ _⟩
  rw [if_neg hlt] at hE
  subst hE
  have H1 := hid ((HB.out.made (m + 1)).free (f - c))
  have K1 := hid ((Kp.setR (ZZ := ZZ) (R := R) (w := w) (oo + 3) (.int .i64 (m + 1))).trans (Kp.setR (ZZ := ZZ) (R := R) oo (.int .i64 (f - c))))
  obtain ⟨W, hW⟩ : ∃ W, W = (w.setCell ⟨R, oo + 3, none⟩ (.int .i64 (m + 1))).setCell ⟨R, oo, none⟩ (.int .i64 (f - c)) := ⟨_, rfl⟩
  rw [← hW] at H1 K1
  clear HB
  go_enter Try.func37, Try.ntmps37
  go_wp2_with (go_at_call 34; refine (KF _).mono ?_; rintro e w' ⟨rfl, rfl⟩)
  rw [← hW]
  clear hW r0 r2 r3 z0 z3 KF b4
  have r2 := H1.out.c2
  have r3 := H1.out.c3
  rw [HEV.out] at r2
  obtain ⟨p', c', U, hrun, u2, uf, B4, K4⟩ := H1.out.snoc (by rw [← HN.out]; exact hb) ⟨m + 1, c, life⟩
  rw [← HN.out, HEV.out] at hrun
  rw [HEV.out] at u2
  rw [← HN.out] at B4 K4
  have R4 := hid hrun
  have Q4 := hid B4
  have QK := hid (K1.out.trans K4)
  clear hrun B4 K4 H1 K1 HEV
  have r2a : (W.alloc (boxP ⟨m + 1, c, life⟩)).cell? ⟨R, oo + 2, none⟩ = some (.slice p0 n cp) := by rw [World.cell?_alloc_lt _ _ _ (World.block_lt_of_cell? (w := W) (h := r2))]; exact r2
  go_region_law (refine step_appL _ _ 48 rfl 48 rfl (.slice p0 n cp) (.slice (some ⟨W.heap.size, 0, none⟩) 1 1) (by simp [Act.eval]) (by simp [Act.eval]) R4.out (by rfl) ?_)
  all_goals
    obtain ⟨W4, hW4⟩ : ∃ W4, W4 = U.setCell ⟨R, oo + 2, none⟩ (.slice p' (n + 1) c') := ⟨_, rfl⟩
    rw [← hW4] at Q4 QK ⊢
    clear hW4 r2 r2a r3 u2 uf R4
    have r3 := Q4.out.c3
    go_wp2
    go_ret2
    exact ⟨rfl, ⟨_, Q4.out⟩, QK.out⟩
end Go.Proofs.Ytiolkeghgodggah.Hd
