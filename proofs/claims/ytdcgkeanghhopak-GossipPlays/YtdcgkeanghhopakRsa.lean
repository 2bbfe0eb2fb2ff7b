/-
  The document's gossipTurn: whatever the turn.
-/
import Derived.Test.YtdcgkeanghhopakRs8
namespace Go.Proofs.Ytdcgkeanghhopak
open Go.RowKit Go.Shelf Go.Sort

theorem turn_c (B S HO IO : Nat) (hb ib : Nat → Nat) (w0 : World) (lp : Option Addr) (lc n hc ic : Nat) (L : List Int) (f : Plain.Shv) (t : Plain.Tu) (T : Int) (hn : n ≤ 8) (hL4 : L.length ≤ 4) (hL : ∀ x, x ∈ L → 0 ≤ x ∧ x < 256) (ok : f.Ok) (hT : ∀ i j, Plain.maxA (f i j) 8 ≤ T) (hT2 : T < 1000000)
    (w : World) (hB : w0.heap.size = B) (hBw : B ≤ w.heap.size) (NL : Nums w0 lp L) (I : ShI B S HO IO hb ib w0 w lp lc n L.length hc ic f) :
    Calls Try.prog 25 #[.pointer (some ⟨S, 0, none⟩), .int .i64 (n : Int), aggT t] w fun e w' => TuP B S HO IO hb ib w0 lp lc n L.length hc ic L f t w e w' := by
  obtain ⟨kd, wh, tz, la, ke, va⟩ := t
  have bA : Below w.heap.size w (w.alloc (boxT ⟨kd, wh, tz, la, ke, va⟩)) := (Below.refl _ _).alloc (Nat.le_refl _) _
  have IW := I.grow hBw bA
  have hBW : B ≤ (w.alloc (boxT ⟨kd, wh, tz, la, ke, va⟩)).heap.size := Nat.le_trans hBw bA.size
  have no : ∀ (E : Nat), Plain.tuE n L f.st ⟨kd, wh, tz, la, ke, va⟩ = E → E ≠ 0 → (Calls Try.prog 25 #[.pointer (some ⟨S, 0, none⟩), .int .i64 (n : Int), aggT ⟨kd, wh, tz, la, ke, va⟩] w fun e w' => e = .returned (.int .i64 (E : Nat)) ∧ Below w.heap.size w w') →
      Calls Try.prog 25 #[.pointer (some ⟨S, 0, none⟩), .int .i64 (n : Int), aggT ⟨kd, wh, tz, la, ke, va⟩] w fun e w' => TuP B S HO IO hb ib w0 lp lc n L.length hc ic L f ⟨kd, wh, tz, la, ke, va⟩ w e w' := fun E h1 h2 K => K.mono (by
    rintro e w' ⟨rfl, b⟩
    exact tuP_no h1 h2 hBw I ok b)
  by_cases c1 : kd < 1
  · exact no 3 (by unfold Plain.tuE; rw [if_pos (.inl c1)]) (by decide) (gt_1 B S HO IO hb ib w0 lp lc n L.length hc ic f kd wh tz la ke va c1 w _ rfl IW)
  by_cases c2 : 3 < kd
  · exact no 3 (by unfold Plain.tuE; rw [if_pos (.inr c2)]) (by decide) (gt_2 B S HO IO hb ib w0 lp lc n L.length hc ic f kd wh tz la ke va c2 w _ rfl IW)
  have e1 : ¬ (kd < 1 ∨ 3 < kd) := by omega
  by_cases c3 : wh < 0
  · exact no 2 (by unfold Plain.tuE; rw [if_neg e1, if_pos (.inl c3)]) (by decide) (gt_3 B S HO IO hb ib w0 lp lc n L.length hc ic f kd wh tz la ke va (by omega) c3 w _ rfl IW)
  by_cases c4 : (n : Int) ≤ wh
  · exact no 2 (by unfold Plain.tuE; rw [if_neg e1, if_pos (.inr c4)]) (by decide) (gt_4 B S HO IO hb ib w0 lp lc n L.length hc ic f kd wh tz la ke va (by omega) c4 w _ rfl IW)
  have e2 : ¬ (wh < 0 ∨ (n : Int) ≤ wh) := by omega
  obtain ⟨i, rfl⟩ : ∃ i : Nat, wh = (i : Int) := ⟨wh.toNat, by omega⟩
  have hi : i < n := by omega
  by_cases c5 : kd = 3
  · by_cases c6 : tz < 0
    · exact no 2 (by unfold Plain.tuE; rw [if_neg e1, if_neg e2, if_pos c5, if_pos (.inl c6)]) (by decide) (gt_5 B S HO IO hb ib w0 lp lc n L.length hc ic f kd i tz la ke va c5 (by omega) c6 w _ rfl IW)
    by_cases c7 : (n : Int) ≤ tz
    · exact no 2 (by unfold Plain.tuE; rw [if_neg e1, if_neg e2, if_pos c5, if_pos (.inr c7)]) (by decide) (gt_6 B S HO IO hb ib w0 lp lc n L.length hc ic f kd i tz la ke va c5 (by omega) c7 w _ rfl IW)
    obtain ⟨b, rfl⟩ : ∃ b : Nat, tz = (b : Int) := ⟨tz.toNat, by omega⟩
    subst c5
    exact gt_19 B S HO IO hb ib w0 lp lc n hc ic L f i b la ke va hn hL4 hL hi (by omega) ok w _ rfl hB hBw NL IW
  have e5 : ¬ kd = 3 := c5
  have hk12 : kd = 1 ∨ kd = 2 := by omega
  by_cases c8 : la < 0
  · exact no 2 (by unfold Plain.tuE; rw [if_neg e1, if_neg e2, if_neg e5, if_pos (.inl (.inl c8))]) (by decide) (gt_7 B S HO IO hb ib w0 lp lc n L.length hc ic f kd i tz la ke va hk12 (by omega) c8 w _ rfl IW)
  by_cases c9 : (L.length : Int) ≤ la
  · exact no 2 (by unfold Plain.tuE; rw [if_neg e1, if_neg e2, if_neg e5, if_pos (.inl (.inr c9))]) (by decide) (gt_8 B S HO IO hb ib w0 lp lc n L.length hc ic f kd i tz la ke va hk12 (by omega) c9 w _ rfl IW)
  by_cases c10 : ke < 0
  · exact no 2 (by unfold Plain.tuE; rw [if_neg e1, if_neg e2, if_neg e5, if_pos (.inr (.inl c10))]) (by decide) (gt_9 B S HO IO hb ib w0 lp lc n L.length hc ic f kd i tz la ke va hk12 (by omega) (by omega) c10 w _ rfl IW)
  by_cases c11 : 7 < ke
  · exact no 2 (by unfold Plain.tuE; rw [if_neg e1, if_neg e2, if_neg e5, if_pos (.inr (.inr c11))]) (by decide) (gt_10 B S HO IO hb ib w0 lp lc n L.length hc ic f kd i tz la ke va hk12 (by omega) (by omega) c11 w _ rfl IW)
  have e6 : ¬ ((la < 0 ∨ (L.length : Int) ≤ la) ∨ (ke < 0 ∨ 7 < ke)) := by omega
  obtain ⟨j, rfl⟩ : ∃ j : Nat, la = (j : Int) := ⟨la.toNat, by omega⟩
  obtain ⟨k, rfl⟩ : ∃ k : Nat, ke = (k : Int) := ⟨ke.toNat, by omega⟩
  have hj : j < L.length := by omega
  have hk : k < 8 := by omega
  by_cases c12 : kd = 1 ∧ va < 0
  · exact no 2 (by unfold Plain.tuE; rw [if_neg e1, if_neg e2, if_neg e5, if_neg e6, if_pos ⟨c12.1, .inl c12.2⟩]) (by decide) (gt_11 B S HO IO hb ib w0 lp lc n L.length hc ic f kd i tz j k va hk12 (by omega) (by omega) (by omega) c12.1 c12.2 w _ rfl IW)
  by_cases c13 : kd = 1 ∧ 255 < va
  · exact no 2 (by unfold Plain.tuE; rw [if_neg e1, if_neg e2, if_neg e5, if_neg e6, if_pos ⟨c13.1, .inr c13.2⟩]) (by decide) (gt_12 B S HO IO hb ib w0 lp lc n L.length hc ic f kd i tz j k va hk12 (by omega) (by omega) (by omega) c13.1 c13.2 w _ rfl IW)
  have e7 : ¬ (kd = 1 ∧ (va < 0 ∨ 255 < va)) := by omega
  have NLr := NL.grow (show Below w0.heap.size w0 (w.alloc (boxT ⟨kd, (i : Int), tz, (j : Int), (k : Int), va⟩)) by rw [hB]; exact IW.be)
  obtain ⟨lb, lo, hlp, hlb, lcs⟩ := NLr (by omega)
  have lc0 := lcs j hj
  obtain ⟨z, ez, hz⟩ := labAt_lt hL j
  have ez' : L.getD j 0 = (z : Int) := ez
  rw [ez'] at lc0
  cases hrd : Plain.reads (z : Int) i with
  | false =>
    have hE : Plain.tuE n L f.st ⟨kd, (i : Int), tz, (j : Int), (k : Int), va⟩ = 11 := by
      unfold Plain.tuE
      rw [if_neg e1, if_neg e2, if_neg e5, if_neg e6, if_neg e7, if_pos (by simp only [Int.toNat_natCast]; rw [ez]; exact hrd)]
    rcases hk12 with h1 | h1
    · subst h1
      exact no 11 hE (by decide) (gt_13 B S HO IO hb ib w0 lp lc n L.length hc ic f i j k tz va hn hi hj hk (by omega) z hz hrd lb lo hlp w _ rfl lc0 IW)
    · subst h1
      exact no 11 hE (by decide) (gt_14 B S HO IO hb ib w0 lp lc n L.length hc ic f i j k tz va hn hi hj hk z hz hrd lb lo hlp w _ rfl lc0 IW)
  | true =>
    have hrd' : Plain.reads (Plain.labAt L j) i = true := by rw [ez]; exact hrd
    rcases hk12 with h1 | h1
    · subst h1
      exact gt_15 B S HO IO hb ib w0 lp lc n L.length hc ic f i j k tz va hn hi hj hk (by omega) L ok
        ⟨.inl rfl, by dsimp only; omega, by dsimp only; omega, by dsimp only; omega, fun _ => by dsimp only; omega, by simpa using hrd', fun h => by dsimp only at h; omega⟩ T ⟨hT i j, hT2⟩ z hz hrd lb lo hlp w _ rfl hBW lc0 IW
    · subst h1
      have hlook : Plain.lives (k : Int) (f.st i j) = match f i j k with | some e => !e.gone | none => false := by
        unfold Plain.lives
        rw [ok.look i j hk]
        cases f i j k <;> rfl
      have hE6 : Plain.lives (k : Int) (f.st i j) = false → Plain.tuE n L f.st ⟨2, (i : Int), tz, (j : Int), (k : Int), va⟩ = 6 := fun h => by
        unfold Plain.tuE
        rw [if_neg e1, if_neg e2, if_neg e5, if_neg e6, if_neg e7, if_neg (by simp only [Int.toNat_natCast]; rw [hrd']; decide), if_pos ⟨rfl, by simpa using h⟩]
      cases hf : f i j k with
      | none => exact no 6 (hE6 (by rw [hlook, hf])) (by decide) (gt_16 B S HO IO hb ib w0 lp lc n L.length hc ic f i j k tz va hn hi hj hk hf z hz hrd lb lo hlp w _ rfl hBW lc0 IW)
      | some x =>
        cases hgx : x.gone with
        | true => exact no 6 (hE6 (by rw [hlook, hf]; simp [hgx])) (by decide) (gt_17 B S HO IO hb ib w0 lp lc n L.length hc ic f i j k tz va hn hi hj hk x hf hgx z hz hrd lb lo hlp w _ rfl hBW lc0 IW)
        | false =>
          exact gt_18 B S HO IO hb ib w0 lp lc n L.length hc ic f i j k tz va hn hi hj hk x hf hgx L ok
            ⟨.inr rfl, by dsimp only; omega, by dsimp only; omega, by dsimp only; omega, fun h => by dsimp only at h; omega, by simpa using hrd', fun _ => by simp only [Int.toNat_natCast]; rw [hlook, hf]; simp [hgx]⟩ T ⟨hT i j, hT2⟩ z hz hrd lb lo hlp w _ rfl hBW lc0 IW
end Go.Proofs.Ytdcgkeanghhopak
