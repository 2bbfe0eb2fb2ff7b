/-
  gossip.Play.
-/
import Derived.Test.YtiolkeghgodggakGr
namespace Go.Proofs.Ytiolkeghgodggak
open Go.RowKit Go.Shelf Go.Sort

set_option maxHeartbeats 4000000 in
set_option maxRecDepth 100000 in
theorem play_range (lv tv : Value) (bn : Int) (L : List Int) (l : List Plain.Tu) (h : bn < 1 ∨ 8 < bn) (w : World) :
    Calls Try.prog 9 #[.int .i64 bn, lv, tv] w fun e w' => PlayP bn L l w e w' := by
  have P0 := hid (playP_no (L := L) (l := l) (bn := bn) (E := 2) (by unfold Plain.goE; rw [if_pos h]) (by decide) (Below.refl w.heap.size w))
  rcases h with h | h
  all_goals
    go_enter Try.func9, Try.ntmps9
    go_wp2
    go_ret3
    exact P0.out

set_option maxHeartbeats 4000000 in
set_option maxRecDepth 100000 in
theorem play_in (p : Option Addr) (m lc : Nat) (q : Option Addr) (N tc : Nat) (n : Nat) (L : List Int) (l : List Plain.Tu) (hn1 : 1 ≤ n) (hn : n ≤ 8) (hmb : m ≤ 9223372036854775807) (hNb : N ≤ 9223372036854775807) (hm : L.length = m) (hN : l.length = N) (hwf : ∀ x, x ∈ L → -9223372036854775808 ≤ x ∧ x ≤ 9223372036854775807) (w : World) (NL : Nums w p L) (NT : encT.Holds w q l) :
    Calls Try.prog 9 #[.int .i64 (n : Int), .slice p m lc, .slice q N tc] w fun e w' => PlayP (n : Int) L l w e w' := by
  have hp1 := LabP.pow_le hn
  have hp2 := Nat.two_pow_pos n
  have hz : ((2 ^ n : Nat) : Int) = (2 : Int) ^ n := by simp
  have hq : (2 : Int) ^ n - 1 = ((2 ^ n - 1 : Nat) : Int) := by omega
  have h0 : (0 : Int) ≤ 2 ^ n := by omega
  have h256 : (2 : Int) ^ n ≤ 256 := by omega
  have hn1z : ¬ (n : Int) < 1 := by omega
  have hn8z : ¬ 8 < (n : Int) := by omega
  have BA := hid (show Below w.heap.size w (w.alloc (.cells #[.int .i64 ((2 : Int) ^ n - 1)] 3)) from (Below.refl _ _).alloc (Nat.le_refl _) _)
  have K1 := containsP p m lc w.heap.size n L _ hn hm hmb hwf (by rw [World.cell?_alloc_at _ _ _ _ rfl, hq]; rfl) (NL.grow BA.out)
  have DG : Plain.goE (n : Int) L l = if L.any (fun s => decide (s < 0 ∨ (2 : Int) ^ n ≤ s)) = true then 2 else if 4 < m ∨ 300 < N then 1 else 0 := by
    unfold Plain.goE
    rw [if_neg (by omega), Int.toNat_natCast, hm, hN]
  have HDG := hid DG
  have HL := hid (show L.any (fun s => decide (s < 0 ∨ (2 : Int) ^ n ≤ s)) = false → ∀ x, x ∈ L → 0 ≤ x ∧ x < 256 from fun e x hx => by
    have := List.any_eq_false.1 e x hx
    simp only [decide_eq_true_eq] at this
    omega)
  have HWF := hid hwf
  have HNL := hid NL
  have HNT := hid NT
  have HM := hid hm
  have HN := hid hN
  clear DG hz hq hwf NL NT hm hN hp1 hp2
  have hmf : ∀ (fn : Fn) (first cap : Array Value) (w : World), (Instr.makeFunc fn first cap).run Try.prog w = .ok (.func fn first cap) w := fun _ _ _ _ => rfl
  cases hbad : L.any (fun s => decide (s < 0 ∨ (2 : Int) ^ n ≤ s)) with
  | true =>
    rw [hbad] at K1
    have P0 := hid (fun w' b => playP_no (w := w) (w' := w') (E := 2) (HDG.out.trans (by rw [hbad, if_pos rfl])) (by decide) b)
    clear hbad HDG HL
    go_enter Try.func9, Try.ntmps9
    go_wp2_with fail
    refine K1.mono ?_
    rintro e wx ⟨rfl, hx⟩
    have hy := hx.symm
    clear hx K1
    subst hy
    go_wp2
    go_ret3
    exact P0.out _ BA.out
  | false =>
    rw [hbad] at K1
    have HL2 := hid (HL.out hbad)
    have HDG2 := hid (show Plain.goE (n : Int) L l = if 4 < m ∨ 300 < N then 1 else 0 by rw [HDG.out, hbad]; rfl)
    clear hbad HDG HL
    by_cases hm4 : 4 < m
    · have P0 := hid (fun w' b => playP_no (w := w) (w' := w') (E := 1) (HDG2.out.trans (by rw [if_pos (.inl hm4)])) (by decide) b)
      have hm4z : (4 : Int) < (m : Int) := by omega
      clear HDG2
      go_enter Try.func9, Try.ntmps9
      go_wp2_with fail
      refine K1.mono ?_
      rintro e wx ⟨rfl, hx⟩
      have hy := hx.symm
      clear hx K1
      subst hy
      go_wp2
      go_ret3
      exact P0.out _ BA.out
    by_cases hN3 : 300 < N
    · have P0 := hid (fun w' b => playP_no (w := w) (w' := w') (E := 1) (HDG2.out.trans (by rw [if_pos (.inr hN3)])) (by decide) b)
      have hm4z : ¬ (4 : Int) < (m : Int) := by omega
      have hN3z : (300 : Int) < (N : Int) := by omega
      clear HDG2
      go_enter Try.func9, Try.ntmps9
      go_wp2_with fail
      refine K1.mono ?_
      rintro e wx ⟨rfl, hx⟩
      have hy := hx.symm
      clear hx K1
      subst hy
      go_wp2
      go_ret3
      exact P0.out _ BA.out
    have HE := hid (show Plain.goE (n : Int) L l = 0 by rw [HDG2.out, if_neg (by omega)])
    have hm4b : decide ((4 : Int) < (m : Int)) = false := decide_eq_false (by omega)
    have hN3b : decide ((300 : Int) < (N : Int)) = false := decide_eq_false (by omega)
    have mk1 : ∀ W : World, (Instr.makeSlice 55 (.int .i64 (n : Int)) (.int .i64 (n : Int))).run Try.prog W = .ok (.slice (some ⟨W.heap.size, 0, none⟩) n n) (W.alloc (.cells (madeCells #[.int .i64 0, .slice none 0 0, .slice none 0 0] (n * 3)) 57)) := fun W => by
      obtain ⟨i0, hi, hz0, hz1, hz2⟩ := info_parts Try.infoSto
      have := run_make (P := Try.prog) W 55 57 i0 _ Try.underlying55 hi hz0 .i64 .i64 (n : Int) (n : Int) (by omega) (Int.le_refl _) (by rw [hz2]; omega) (by omega)
      rw [hz1, show (Value.agg #[.int .i64 0, .slice none 0 0, .slice none 0 0]).cells = #[.int .i64 0, .slice none 0 0, .slice none 0 0] from rfl] at this
      simpa using this
    have mk3 := run_make_row' (P := Try.prog) 24 26 (.int .i64 0) 8 Try.underlying24 Try.infoErr rfl .i64 .i64 N (by omega) (by omega)
    clear HDG2
    go_enter Try.func9, Try.ntmps9
    go_wp2_with fail
    refine K1.mono ?_
    rintro e wx ⟨rfl, hx⟩
    have hy := hx.symm
    clear hx K1 hmf
    subst hy
    go_wp2
    clear mk1
    obtain ⟨W1, hW1⟩ : ∃ W1, W1 = (w.alloc (.cells #[.int .i64 ((2 : Int) ^ n - 1)] 3)).alloc (.cells (madeCells #[.int .i64 0, .slice none 0 0, .slice none 0 0] (n * 3)) 57) := ⟨_, rfl⟩
    rw [← hW1]
    have M0 := hid (show MkI w W1 w.heap.size (w.heap.size + 1) 0 n m (fun _ => 0) p lc by
      have e1 : (w.alloc (.cells #[.int .i64 ((2 : Int) ^ n - 1)] 3)).heap.size = w.heap.size + 1 := by simp
      obtain ⟨V1, hV1⟩ : ∃ V1, V1 = w.alloc (.cells #[.int .i64 ((2 : Int) ^ n - 1)] 3) := ⟨_, rfl⟩
      have b1 : Below w.heap.size w V1 := by rw [hV1]; exact BA.out
      rw [← hV1] at e1 hW1
      have b2 : Below V1.heap.size V1 W1 := by rw [hW1]; exact (Below.refl _ _).alloc (Nat.le_refl _) _
      have r2 : W1.rowIs V1.heap.size 57 (n * 3) zerF := by
        rw [hW1]
        refine ⟨_, Deep.blk_alloc_new _ _, size_madeCells _ _, fun i hi => ?_⟩
        have : i % 3 = 0 ∨ i % 3 = 1 ∨ i % 3 = 2 := by omega
        rcases this with e | e | e <;> simp [madeCells, hi, e, zerF]
      rw [e1] at r2 b2
      exact ⟨r2.congr fun j _ => by rw [if_neg (by omega)], fun i hi => absurd hi (by omega), fun i j hi => absurd hi (by omega), fun i hi => absurd hi (by omega), b1.trans (b2.mono (by omega)), by omega⟩)
    obtain ⟨B, hB⟩ : ∃ B, B = w.heap.size := ⟨_, rfl⟩
    rw [← hB] at M0 ⊢
    have HBB := hid hB
    clear hW1 hB BA h0 h256
    go_loopg [11, 39] n (fun gg _ s39 wx => ∃ k : Nat, k ≤ n ∧ n - k ≤ gg ∧ s39 = .int .i64 k ∧ Aside (∃ H, MkI w wx B (B + 1) k n m H p lc))
    case atStart => exact ⟨0, Nat.zero_le _, by omega, rfl, (show Aside _ from ⟨_, M0.out⟩)⟩
    case round =>
      obtain ⟨k, hk, hg, rfl, MA⟩ := hrel
      clear M0
      obtain ⟨H, hMK⟩ := MA.out
      have MK := hid hMK
      clear hMK MA
      have hBr : B ≤ wr.heap.size := by have := MK.out.be.size; rw [← HBB.out] at this; exact this
      by_cases hlt : k < n
      · have hltz : (k : Int) < (n : Int) := by omega
        have KN := newStore_c k p m lc (by omega) wr
        go_wp2_with fail
        refine KN.mono ?_
        rintro e w2 ⟨H', rfl, hr, hge, b2⟩
        have r2 := (MK.out.grow hBr b2).row
        have y0 := r2.cell (i := k * 3) (by omega)
        have y1 := r2.cell (i := k * 3 + 1) (by omega)
        have y2 := r2.cell (i := k * 3 + 2) (by omega)
        have z0 := r2.frozen (k * 3)
        have z1 := r2.frozen (k * 3 + 1)
        have z2 := r2.frozen (k * 3 + 2)
        have SP := hid (MK.out.step hBr hr hge b2)
        clear KN hr b2 r2 MK
        obtain ⟨W2, hW2⟩ : ∃ W2, W2 = ((w2.setCell ⟨B + 1, k * 3, none⟩ (.int .i64 (k : Nat))).setCell ⟨B + 1, k * 3 + 1, none⟩ (.slice p m lc)).setCell ⟨B + 1, k * 3 + 2, none⟩ (.slice (some ⟨H', 0, none⟩) m m) := ⟨_, rfl⟩
        rw [← hW2] at SP
        go_wp2
        rw [← hW2]
        clear hW2 y0 y1 y2 z0 z1 z2
        go_roundg (n - (k + 1))
        case measure => omega
        case rel => exact ⟨k + 1, by omega, by omega, by go_num, (show Aside _ from ⟨_, SP.out⟩)⟩
      · have hltz : ¬ (k : Int) < (n : Int) := by omega
        have ek : n = k := by omega
        subst ek
        have CI := hid (show CcI B (B + 1) H w wr p lc n L Plain.Stt.nil from (show MkI w wr B (B + 1) n n L.length H p lc by rw [HM.out]; exact MK.out).circle HNL.out HBB.out.symm)
        have T0 := hid (show (wr.alloc (.cells (madeCells #[.int .i64 0] N) 26)).rowIs wr.heap.size 26 N (codeF []) from ⟨_, Deep.blk_alloc_new _ _, size_madeCells _ _, fun i hi => by simp [madeCells, hi, Nat.mod_one, codeF]⟩)
        clear MK
        go_wp2
        clear mk3
        obtain ⟨W3, hW3⟩ : ∃ W3, W3 = wr.alloc (.cells (madeCells #[.int .i64 0] N) 26) := ⟨_, rfl⟩
        rw [← hW3] at T0 ⊢
        have b3 : Below wr.heap.size wr W3 := by rw [hW3]; exact (Below.refl _ _).alloc (Nat.le_refl _) _
        obtain ⟨TT, hTT⟩ : ∃ TT, TT = wr.heap.size := ⟨_, rfl⟩
        rw [← hTT] at T0 ⊢
        have G0 := hid (show PlG B (B + 1) TT H w W3 p lc n N L Plain.Stt.nil [] from ⟨CI.out.grow hBr b3, T0.out, by rw [hTT]; exact hBr, HNL.out, HBB.out.symm⟩)
        clear hW3 b3 hTT T0 CI
        have GN := hid (Plain.Gok.nil n L)
        go_loopg [13, 14, 54] N (fun gg _ _ s58 wx => ∃ k : Nat, k ≤ N ∧ N - k ≤ gg ∧ s58 = .int .i64 k ∧ Aside (PlG B (B + 1) TT H w wx p lc n N L (Plain.stF n L Plain.Stt.nil (l.take k)) (Plain.goF n L Plain.Stt.nil (l.take k))))
        case atStart => exact ⟨0, Nat.zero_le _, by omega, rfl, (show Aside _ from G0.out)⟩
        case round =>
          obtain ⟨k, hkk, hgg, rfl, PG⟩ := hrel
          clear G0
          have hBr2 : B ≤ wr.heap.size := by have := PG.out.ci.be.size; rw [← HBB.out] at this; exact this
          by_cases hlk : k < N
          · have hlkz : (k : Int) < (N : Int) := by omega
            have hll : k < l.length := by rw [HN.out]; exact hlk
            have NTr := HNT.out.grow (show Below w.heap.size w wr by rw [← HBB.out]; exact PG.out.ci.be)
            obtain ⟨tb, tof, rfl, htb, hc⟩ := holdsT NTr (by omega)
            obtain ⟨c0, c1, c2, c3, c4, c5⟩ := hc k hll
            have ST := hid (Plain.stF_take n L Plain.Stt.nil l k hll)
            have GT := hid (Plain.goF_take n L Plain.Stt.nil l k hll)
            have GK := hid (show Plain.Gok n L (k : Int) (Plain.stF n L Plain.Stt.nil (l.take k)) from (GN.out.run hn (l.take k) ⟨by omega, by rw [List.length_take]; omega⟩).up (by rw [List.length_take]; omega))
            have GL := hid (show (Plain.goF n L Plain.Stt.nil (l.take k)).length = k by rw [Plain.goF_len, List.length_take]; omega)
            clear hc NTr
            generalize l.getD k default = t at c0 c1 c2 c3 c4 c5 ST GT
            generalize Plain.stF n L Plain.Stt.nil (l.take k) = s at PG ST GT GK
            generalize Plain.goF n L Plain.Stt.nil (l.take k) = D at PG GT GL
            have PA := hid (PG.out.grow hBr2 ((Below.refl wr.heap.size wr).alloc (Nat.le_refl _) (boxT t)))
            have K := do_c B (B + 1) H w p lc n L s t (k : Int) hn (by rw [HM.out]; omega) HL2.out (fun i => Plain.Sok.of_gok GK.out i) ⟨by omega, by omega⟩ (wr.alloc (boxT t)) (by have : wr.heap.size ≤ (wr.alloc (boxT t)).heap.size := (by simp); omega) PA.out.ci
            clear PG
            obtain ⟨kd, wh, tz, la, ke, va⟩ := t
            dsimp only at c0 c1 c2 c3 c4 c5
            go_wp2_with fail
            refine K.mono ?_
            rintro e w4 ⟨rfl, hci, hun⟩
            have P4 := hid (PA.out.call hci hun)
            clear K hci hun PA c0 c1 c2 c3 c4 c5
            have y0 := P4.out.tl.cell (i := k) hlk
            have z0 := P4.out.tl.frozen k
            unfold codeF at y0
            have P5 := hid (P4.out.told (Plain.tuE n L s ⟨kd, wh, tz, la, ke, va⟩))
            rw [GL.out] at P5
            rw [← ST.out, ← GT.out] at P5
            generalize Plain.tuE n L s ⟨kd, wh, tz, la, ke, va⟩ = r at P5 ⊢
            clear P4 ST GT GK
            go_wp2
            go_roundg (N - (k + 1))
            case measure => omega
            case rel => exact ⟨k + 1, by omega, by omega, by go_num, (show Aside _ from P5.out)⟩
          · have hlkz : ¬ (k : Int) < (N : Int) := by omega
            have hall : l.take k = l := List.take_of_length_le (by rw [HN.out]; omega)
            have PE := PG.out
            rw [hall] at PE
            have hgl : (Plain.goF n L Plain.Stt.nil l).length = N := by rw [Plain.goF_len, HN.out]
            have e1 : Plain.codesV (n : Int) L l = Plain.goF n L Plain.Stt.nil l := by unfold Plain.codesV; rw [HE.out, Int.toNat_natCast]; rfl
            have e2 : Plain.cntV (n : Int) L l = n := by unfold Plain.cntV; rw [HE.out, Int.toNat_natCast]; rfl
            have GK := Plain.Gok.run GN.out hn l ⟨by omega, by rw [HN.out]; omega⟩
            have KE := circleEntries_c B (B + 1) H w p lc n L _ _ hn (by rw [HM.out]; omega) (fun i => Plain.Sok.of_gok GK i) wr hBr2 PE.ci
            have HF := hid (fun q0 w' (st : Stores w' (some ⟨q0, 0, none⟩) n L.length (Plain.stF n L Plain.Stt.nil l)) (b : Below wr.heap.size wr w') => show PlayP (n : Int) L l w (.returned (.tuple #[.slice (some ⟨TT, 0, none⟩) N N, .slice (some ⟨q0, 0, none⟩) n n, .int .i64 0])) w' from
              ⟨some ⟨TT, 0, none⟩, N, some ⟨q0, 0, none⟩, n, by rw [e1, e2, hgl, HE.out]; rfl, by rw [e1]; exact (PE.grow hBr2 b).nums hgl, by rw [e2, Int.toNat_natCast]; exact st, by rw [← HBB.out]; exact (PE.grow hBr2 b).ci.be⟩)
            clear PG PE hgl e1 e2 hall GK
            go_wp2_with fail
            refine KE.mono ?_
            rintro e w5 ⟨q0, rfl, st, b5⟩
            have HY := hid (HF.out q0 w5 st b5)
            clear KE HF st b5
            go_wp2
            go_ret3
            exact HY.out

/-- gossip.Play. -/
theorem play_c (p : Option Addr) (m lc : Nat) (q : Option Addr) (N tc : Nat) (bn : Int) (L : List Int) (l : List Plain.Tu) (hmb : m ≤ 9223372036854775807) (hNb : N ≤ 9223372036854775807) (hm : L.length = m) (hN : l.length = N) (hwf : ∀ x, x ∈ L → -9223372036854775808 ≤ x ∧ x ≤ 9223372036854775807) (w : World) (NL : Nums w p L) (NT : encT.Holds w q l) :
    Calls Try.prog 9 #[.int .i64 bn, .slice p m lc, .slice q N tc] w fun e w' => PlayP bn L l w e w' := by
  by_cases h : bn < 1 ∨ 8 < bn
  · exact play_range _ _ bn L l h w
  · obtain ⟨n, rfl⟩ : ∃ n : Nat, bn = (n : Int) := ⟨bn.toNat, by omega⟩
    exact play_in p m lc q N tc n L l (by omega) (by omega) hmb hNb hm hN hwf w NL NT
end Go.Proofs.Ytiolkeghgodggak
