/-
  The circle's do.
-/
import Derived.Test.YtiolkeghgodggakGb
namespace Go.Proofs.Ytiolkeghgodggak
open Go.RowKit Go.Shelf Go.Sort

theorem RowL.told {w : World} {g m : Nat} {s : Nat → List Plain.En} {f : Nat → Value} (h : RowL w g m s f) : ToldL w g 0 m 0 s := ⟨fun i _ hi => by
  obtain ⟨p, c, e, _⟩ := (h.sg i hi).1.form
  refine ⟨p, c, ?_, ?_, ?_⟩
  · rw [Nat.zero_add, h.row.cell hi, e]
  · rw [← e]; exact (h.sg i hi).1
  · rw [← e]; exact (h.sg i hi).2⟩

set_option maxHeartbeats 8000000 in
set_option maxRecDepth 100000 in
theorem do_c (B C : Nat) (H : Nat → Nat) (w0 : World) (lp : Option Addr) (lc n : Nat) (L : List Int) (s : Plain.Stt) (t : Plain.Tu) (T : Int) (hn : n ≤ 8) (hL4 : L.length ≤ 4) (hL : ∀ x, x ∈ L → 0 ≤ x ∧ x < 256) (hG : ∀ i, Plain.Sok T (s i)) (hT : 0 ≤ T ∧ T < 1000000)
    (w : World) (hBw : B ≤ w.heap.size) (I : CcI B C H w0 w lp lc n L s) :
    Calls Try.prog 24 #[.slice (some ⟨C, 0, none⟩) n n, aggT t] w fun e w' => DoP B C H w0 lp lc n L s t w e w' := by
  have BA := hid (show Below w.heap.size w (w.alloc (boxT t)) from (Below.refl _ _).alloc (Nat.le_refl _) _)
  have hBa : B ≤ (w.alloc (boxT t)).heap.size := Nat.le_trans hBw BA.out.size
  have I0 := hid (I.grow hBw BA.out)
  have HNO := hid (fun (E : Nat) (hE : Plain.tuE n L s t = E) (h0 : E ≠ 0) => doP_no hE h0 hBw I BA.out)
  have HYES := hid (fun (i : Nat) (hi : i < n) (u : Nat → List Plain.En) (E : Nat) (w' : World) (hE : Plain.tuE n L s t = E) (hS : Plain.tuS n L s t = fun a => if a = i then u else s a) (p : PutP C (i * 3) (cirW lp lc n L.length H) (H i) i lp lc L u (w.alloc (boxT t)) w') => show DoP B C H w0 lp lc n L s t w (.returned (.int .i64 (E : Nat))) w' from
    ⟨by rw [hE], by rw [hS]; exact I0.out.put hi p hBa, (Un.of_below BA.out).trans (Kp.un hi p.2)⟩)
  by_cases hk : t.kind < 1 ∨ 3 < t.kind
  · have HX := hid (HNO.out 3 (by unfold Plain.tuE; rw [if_pos hk]) (by decide))
    clear I I0 HNO HYES hG hL
    obtain ⟨kd, wh, tz, la, ke, va⟩ := t
    dsimp only at hk
    have b1 : (kd != 1) = true := by simp; omega
    have b2 : (kd != 2) = true := by simp; omega
    have b3 : (kd != 3) = true := by simp; omega
    clear hk
    go_enter Try.func24, Try.ntmps24
    go_wp2
    go_ret
    exact HX.out
  by_cases hw : 0 ≤ t.who ∧ t.who < n
  case neg =>
    have HX := hid (HNO.out 2 (by unfold Plain.tuE; rw [if_neg hk, if_pos (by omega)]) (by decide))
    have K := fun W => place_f hw W
    clear I I0 HNO HYES hG hL
    obtain ⟨kd, wh, tz, la, ke, va⟩ := t
    dsimp only at hk K
    have hk3 : kd = 1 ∨ kd = 2 ∨ kd = 3 := by omega
    clear hk
    rcases hk3 with rfl | rfl | rfl
    all_goals
      go_enter Try.func24, Try.ntmps24
      go_wp2_with (first | (go_at_call 36; refine (K _).mono ?_; rintro e w' ⟨rfl, hx⟩; have hy := hx.symm; clear hx; subst hy) | fail)
      go_ret
      exact HX.out
  have KW := fun W => place_t hw W
  have hk3 : t.kind = 1 ∨ t.kind = 2 ∨ t.kind = 3 := by omega
  obtain ⟨kd, wh, tz, la, ke, va⟩ := t
  dsimp only at hk3 KW hw
  obtain ⟨i, rfl⟩ : ∃ i : Nat, wh = (i : Int) := ⟨wh.toNat, by omega⟩
  have hi : i < n := by omega
  have hiz : (i : Int) < (n : Int) := by omega
  clear hk hw
  have ST := I0.out.sto hi
  rcases hk3 with rfl | rfl | rfl
  · have K := write_c C (i * 3) _ (H i) i lp lc L (s i) la ke va T (by omega) hL4 hL hT (hG i) _ ST
    have HX := hid (fun w' p => HYES.out i hi _ _ w' (Plain.tuE_w hi tz la ke va) (Plain.tuS_w hi tz la ke va) p)
    clear I I0 HNO HYES hG hL ST
    go_enter Try.func24, Try.ntmps24
    go_wp2_with (first | (go_at_call 36; refine (KW _).mono ?_; rintro e w' ⟨rfl, hx⟩; have hy := hx.symm; clear hx; subst hy) | fail)
    refine K.mono ?_
    rintro e w1 ⟨rfl, hp⟩
    have HY := hid (HX.out w1 hp)
    clear K HX hp BA
    generalize Plain.wrE L i la ke va = r at HY ⊢
    go_wp2
    go_ret
    exact HY.out
  · have K := erase_c C (i * 3) _ (H i) i lp lc L (s i) la ke T (by omega) hL4 hL hT (hG i) _ ST
    have HX := hid (fun w' p => HYES.out i hi _ _ w' (Plain.tuE_e hi tz la ke va) (Plain.tuS_e hi tz la ke va) p)
    clear I I0 HNO HYES hG hL ST
    go_enter Try.func24, Try.ntmps24
    go_wp2_with (first | (go_at_call 36; refine (KW _).mono ?_; rintro e w' ⟨rfl, hx⟩; have hy := hx.symm; clear hx; subst hy) | fail)
    refine K.mono ?_
    rintro e w1 ⟨rfl, hp⟩
    have HY := hid (HX.out w1 hp)
    clear K HX hp BA
    generalize Plain.valE L i (s i) la ke = r at HY ⊢
    go_wp2
    go_ret
    exact HY.out
  · by_cases ht : 0 ≤ tz ∧ tz < n
    case neg =>
      have HX := hid (HNO.out 2 (by unfold Plain.tuE; dsimp only; rw [if_neg (by omega), if_neg (by omega), if_pos rfl, if_pos (by omega)]) (by decide))
      have K := fun W => place_f ht W
      clear I I0 HNO HYES hG hL ST
      go_enter Try.func24, Try.ntmps24
      go_wp2_with (first | (go_at_call_of 36 (Value.int .i64 (i : Int)); refine (KW _).mono ?_; rintro e w' ⟨rfl, hx⟩; have hy := hx.symm; clear hx; subst hy) | (go_at_call_of 36 (Value.int .i64 tz); refine (K _).mono ?_; rintro e w' ⟨rfl, hx⟩; have hy := hx.symm; clear hx; subst hy) | fail)
      go_ret
      exact HX.out
    have KT := fun W => place_t ht W
    obtain ⟨j, rfl⟩ : ∃ j : Nat, tz = (j : Int) := ⟨tz.toNat, by omega⟩
    have hj : j < n := by omega
    have hjz : (j : Int) < (n : Int) := by omega
    have SJ := I0.out.sto hj
    have x2 := ST.c2
    have TL := (I0.out.rs i hi)
    have K := fun q => hear_some C (j * 3) _ (H j) j i lp lc L (s j) (s i) (H i) 0 L.length T (by omega) (by omega) hL4 hL (hG j) (hG i) (.inr rfl) ((w.alloc (boxT ⟨3, i, j, la, ke, va⟩)).drewN q) (by obtain ⟨f, hf⟩ := TL; exact hf.row.lt) (SJ.drewN q) (by obtain ⟨f, hf⟩ := TL; exact (hf.grow (below_drewN (Below.refl _ _) q)).told)
    have HX := hid (fun q w' (p : PutP C (j * 3) (cirW lp lc n L.length H) (H j) j lp lc L _ ((w.alloc (boxT ⟨3, i, j, la, ke, va⟩)).drewN q) w') => HYES.out j hj _ 0 w' (Plain.tuE_t hi hj la ke va) (Plain.tuS_t hi hj la ke va) ⟨p.1, (Kp.of_below (below_drewN (Below.refl _ _) q)).trans p.2⟩)
    have hCH := SJ.RH
    have hCL := SJ.lt
    have hHj : H j < w.heap.size := by obtain ⟨f, hf⟩ := I.rs j hj; exact hf.row.lt
    clear I I0 HNO HYES hG hL ST SJ TL ht
    generalize L.length = m at *
    go_enter Try.func24, Try.ntmps24
    go_wp2_with (first | (go_at_call_of 36 (Value.int .i64 (i : Int)); refine (KW _).mono ?_; rintro e w' ⟨rfl, hx⟩; have hy := hx.symm; clear hx; subst hy) | (go_at_call_of 36 (Value.int .i64 (j : Int)); refine (KT _).mono ?_; rintro e w' ⟨rfl, hx⟩; have hy := hx.symm; clear hx; subst hy) | fail)
    obtain ⟨WA, hWA⟩ : ∃ WA, WA = w.alloc (boxT ⟨3, (i : Int), (j : Int), la, ke, va⟩) := ⟨_, rfl⟩
    have a1 : WA.cell? ⟨w.heap.size, 1, none⟩ = some (.int .i64 (i : Int)) := by rw [hWA]; exact (boxT_at w _).c1
    have a2 : WA.cell? ⟨w.heap.size, 2, none⟩ = some (.int .i64 (j : Int)) := by rw [hWA]; exact (boxT_at w _).c2
    rw [← hWA] at K x2 HX
    rw [show w.alloc (.cells #[.int .i64 3, .int .i64 (i : Int), .int .i64 (j : Int), .int .i64 la, .int .i64 ke, .int .i64 va] 44) = WA from hWA.symm]
    rw [← hWA] at hCL
    clear hWA BA hBa
    have hCj : C ≠ H j := hCH
    have hCl : C < WA.heap.size := hCL
    have hWj : w.heap.size ≠ H j := by omega
    have hWl : w.heap.size < WA.heap.size := World.block_lt_of_cell? (w := WA) (h := a1)
    have KEEP := hid (fun (b o : Nat) (v : Value) (w2 : World) (k : Kp (fun _ => False) (H j) WA.drew w2) (hb : b < WA.heap.size) (hne : b ≠ H j) (hc : WA.cell? ⟨b, o, none⟩ = some v) => show w2.cell? ⟨b, o, none⟩ = some v by
      have e := k.block b hb hne (fun x => x)
      rw [← hc]
      simp only [World.cell?]
      rw [e]; rfl)
    have K1 := K 1
    have HX1 := hid (HX.out 1)
    rw [show WA.drewN 1 = WA.drew from rfl] at K1 HX1
    clear K HX
    go_region_held3 (fun w' => w'.cell? ⟨w.heap.size, 1, none⟩ = some (.int .i64 (i : Int)) ∧ w'.cell? ⟨w.heap.size, 2, none⟩ = some (.int .i64 (j : Int)) ∧ w'.cell? ⟨C, i * 3 + 2, none⟩ = some (.slice (some ⟨H i, 0, none⟩) m m)) (go_keep)
      ((go_at_call 39; refine K1.mono ?_; rintro e w2 ⟨rfl, hp⟩; have HY := hid (HX1.out w2 hp); have f1 := KEEP.out _ _ _ w2 hp.2 hWl hWj a1; have f2 := KEEP.out _ _ _ w2 hp.2 hWl hWj a2; have f3 := KEEP.out _ _ _ w2 hp.2 hCl hCj x2; clear hp))
    all_goals
      go_wp2
      go_ret
      exact HY.out
end Go.Proofs.Ytiolkeghgodggak
