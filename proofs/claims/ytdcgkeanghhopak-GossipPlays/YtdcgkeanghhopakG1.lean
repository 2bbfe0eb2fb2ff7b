/-
  gossip.Play.
-/
import Derived.Test.YtdcgkeanghhopakGz
namespace Go.Proofs.Ytdcgkeanghhopak
open Go.RowKit Go.Shelf Go.Sort

theorem Try.infoSsE : (Try.prog.info? 39).map (fun i => (i.zero, i.size, i.bytes)) = some (some (.slice none 0 0), 1, 24) := by kernel_rfl
theorem Try.infoSE : (Try.prog.info? 40).map (fun i => (i.zero, i.size, i.bytes)) = some (some (.slice none 0 0), 1, 24) := by kernel_rfl
theorem Try.infoErr : (Try.prog.info? 26).map (fun i => (i.zero, i.size, i.bytes)) = some (some (.int .i64 0), 1, 8) := by kernel_rfl

set_option maxHeartbeats 4000000 in
set_option maxRecDepth 100000 in
theorem play_range (lv tv : Value) (bn : Int) (L : List Int) (l : List Plain.Tu) (h : bn < 1 ∨ 8 < bn) (w : World) :
    Calls Try.prog 9 #[.int .i64 bn, lv, tv] w fun e w' => PlayP bn L l w e w' := by
  have P0 := hid (playP_no (L := L) (l := l) (bn := bn) (E := 2) (by unfold Plain.goE; rw [if_pos h]) (by decide) (Below.refl w.heap.size w))
  rcases h with h | h
  all_goals
    go_enter Try.func9, Try.ntmps9
    go_wp2
    go_ret3
    exact P0.out

set_option maxHeartbeats 4000000 in
set_option maxRecDepth 100000 in
theorem play_in (p : Option Addr) (m lc : Nat) (q : Option Addr) (N tc : Nat) (n : Nat) (L : List Int) (l : List Plain.Tu) (hn1 : 1 ≤ n) (hn : n ≤ 8) (hmb : m ≤ 9223372036854775807) (hNb : N ≤ 9223372036854775807) (hm : L.length = m) (hN : l.length = N) (hwf : ∀ x, x ∈ L → -9223372036854775808 ≤ x ∧ x ≤ 9223372036854775807) (w : World) (NL : Nums w p L) (NT : encT.Holds w q l) :
    Calls Try.prog 9 #[.int .i64 (n : Int), .slice p m lc, .slice q N tc] w fun e w' => PlayP (n : Int) L l w e w' := by
  have hp1 := LabP.pow_le hn
  have hp2 := Nat.two_pow_pos n
  have hz : ((2 ^ n : Nat) : Int) = (2 : Int) ^ n := by simp
  have hq : (2 : Int) ^ n - 1 = ((2 ^ n - 1 : Nat) : Int) := by omega
  have h0 : (0 : Int) ≤ 2 ^ n := by omega
  have h256 : (2 : Int) ^ n ≤ 256 := by omega
  have hn1z : ¬ (n : Int) < 1 := by omega
  have hn8z : ¬ 8 < (n : Int) := by omega
  have BA := hid (show Below w.heap.size w (w.alloc (.cells #[.int .i64 ((2 : Int) ^ n - 1)] 3)) from (Below.refl _ _).alloc (Nat.le_refl _) _)
  have K1 := containsP p m lc w.heap.size n L _ hn hm hmb hwf (by rw [World.cell?_alloc_at _ _ _ _ rfl, hq]; rfl) (NL.grow BA.out)
  have DG : Plain.goE (n : Int) L l = if L.any (fun s => decide (s < 0 ∨ (2 : Int) ^ n ≤ s)) = true then 2 else if 4 < m ∨ 300 < N then 1 else 0 := by
    unfold Plain.goE
    rw [if_neg (by omega), Int.toNat_natCast, hm, hN]
  have HDG := hid DG
  have HL := hid (show L.any (fun s => decide (s < 0 ∨ (2 : Int) ^ n ≤ s)) = false → ∀ x, x ∈ L → 0 ≤ x ∧ x < 256 from fun e x hx => by
    have := List.any_eq_false.1 e x hx
    simp only [decide_eq_true_eq] at this
    omega)
  have HWF := hid hwf
  have HNL := hid NL
  have HNT := hid NT
  have HM := hid hm
  have HN := hid hN
  clear DG hz hq hwf NL NT hm hN hp1 hp2
  have hmf : ∀ (fn : Fn) (first cap : Array Value) (w : World), (Instr.makeFunc fn first cap).run Try.prog w = .ok (.func fn first cap) w := fun _ _ _ _ => rfl
  cases hbad : L.any (fun s => decide (s < 0 ∨ (2 : Int) ^ n ≤ s)) with
  | true =>
    rw [hbad] at K1
    have P0 := hid (fun w' b => playP_no (w := w) (w' := w') (E := 2) (HDG.out.trans (by rw [hbad, if_pos rfl])) (by decide) b)
    clear hbad HDG HL
    go_enter Try.func9, Try.ntmps9
    go_wp2_with fail
    refine K1.mono ?_
    rintro e wx ⟨rfl, hx⟩
    have hy := hx.symm
    clear hx K1
    subst hy
    go_wp2
    go_ret3
    exact P0.out _ BA.out
  | false =>
    rw [hbad] at K1
    have HL2 := hid (HL.out hbad)
    have HDG2 := hid (show Plain.goE (n : Int) L l = if 4 < m ∨ 300 < N then 1 else 0 by rw [HDG.out, hbad]; rfl)
    clear hbad HDG HL
    by_cases hm4 : 4 < m
    · have P0 := hid (fun w' b => playP_no (w := w) (w' := w') (E := 1) (HDG2.out.trans (by rw [if_pos (.inl hm4)])) (by decide) b)
      have hm4z : (4 : Int) < (m : Int) := by omega
      clear HDG2
      go_enter Try.func9, Try.ntmps9
      go_wp2_with fail
      refine K1.mono ?_
      rintro e wx ⟨rfl, hx⟩
      have hy := hx.symm
      clear hx K1
      subst hy
      go_wp2
      go_ret3
      exact P0.out _ BA.out
    by_cases hN3 : 300 < N
    · have P0 := hid (fun w' b => playP_no (w := w) (w' := w') (E := 1) (HDG2.out.trans (by rw [if_pos (.inr hN3)])) (by decide) b)
      have hm4z : ¬ (4 : Int) < (m : Int) := by omega
      have hN3z : (300 : Int) < (N : Int) := by omega
      clear HDG2
      go_enter Try.func9, Try.ntmps9
      go_wp2_with fail
      refine K1.mono ?_
      rintro e wx ⟨rfl, hx⟩
      have hy := hx.symm
      clear hx K1
      subst hy
      go_wp2
      go_ret3
      exact P0.out _ BA.out
    have HE := hid (show Plain.goE (n : Int) L l = 0 by rw [HDG2.out, if_neg (by omega)])
    have hm4b : decide ((4 : Int) < (m : Int)) = false := decide_eq_false (by omega)
    have hN3b : decide ((300 : Int) < (N : Int)) = false := decide_eq_false (by omega)
    have mk1 := run_make_row' (P := Try.prog) 25 40 (.slice none 0 0) 24 Try.underlying25 Try.infoSE rfl .i64 .i64 n (by omega) (by omega)
    have mk2 := run_make_row' (P := Try.prog) 40 39 (.slice none 0 0) 24 Try.underlying40 Try.infoSsE rfl .i64 .i64 m (by omega) (by omega)
    have mk3 := run_make_row' (P := Try.prog) 24 26 (.int .i64 0) 8 Try.underlying24 Try.infoErr rfl .i64 .i64 N (by omega) (by omega)
    clear HDG2
    go_enter Try.func9, Try.ntmps9
    go_wp2_with fail
    refine K1.mono ?_
    rintro e wx ⟨rfl, hx⟩
    have hy := hx.symm
    clear hx K1 hmf
    subst hy
    go_wp2
    clear mk1
    obtain ⟨W1, hW1⟩ : ∃ W1, W1 = ((w.alloc (.cells #[.int .i64 ((2 : Int) ^ n - 1)] 3)).alloc (.cells (madeCells #[.slice none 0 0] n) 40)).alloc (.cells #[.slice p m lc, .slice (some ⟨w.heap.size + 1, 0, none⟩) n n] 55) := ⟨_, rfl⟩
    rw [← hW1]
    have M0 := hid (show MkI w W1 w.heap.size (w.heap.size + 1 + 1) (w.heap.size + 1) 0 n m p lc by
      have e1 : (w.alloc (.cells #[.int .i64 ((2 : Int) ^ n - 1)] 3)).heap.size = w.heap.size + 1 := by simp
      obtain ⟨V1, hV1⟩ : ∃ V1, V1 = w.alloc (.cells #[.int .i64 ((2 : Int) ^ n - 1)] 3) := ⟨_, rfl⟩
      have b1 : Below w.heap.size w V1 := by rw [hV1]; exact BA.out
      rw [← hV1] at e1 hW1
      obtain ⟨V2, hV2⟩ : ∃ V2, V2 = V1.alloc (.cells (madeCells #[.slice none 0 0] n) 40) := ⟨_, rfl⟩
      have b2 : Below V1.heap.size V1 V2 := by rw [hV2]; exact (Below.refl _ _).alloc (Nat.le_refl _) _
      have r2 : V2.rowIs V1.heap.size 40 n (fun _ => .slice none 0 0) := by rw [hV2]; exact made_rowE _ _ _
      have e2 : V2.heap.size = w.heap.size + 1 + 1 := by rw [hV2]; simp [e1]
      rw [← hV2] at hW1
      have b3 : Below V2.heap.size V2 W1 := by rw [hW1]; exact (Below.refl _ _).alloc (Nat.le_refl _) _
      have r3 : W1.rowIs V2.heap.size 55 2 (fun j => if j = 0 then .slice p m lc else .slice (some ⟨w.heap.size + 1, 0, none⟩) n n) := by
        rw [hW1]
        refine World.rowIs_alloc _ _ 55 _ fun i hi => ?_
        have hi4 : i < 2 := hi
        have : i = 0 ∨ i = 1 := by omega
        rcases this with rfl | rfl <;> rfl
      rw [e2] at r3 b3
      rw [e1] at r2 b2
      refine ⟨r3, (r2.of_block (b3.block _ (by omega))).congr fun i _ => by rw [if_neg (by omega)], fun i hi => absurd hi (by omega), by rw [hW1]; simp [e2], (b1.trans (b2.mono (by omega))).trans (b3.mono (by omega))⟩)
    obtain ⟨B, hB⟩ : ∃ B, B = w.heap.size := ⟨_, rfl⟩
    rw [← hB] at M0 ⊢
    have HBB := hid hB
    clear hW1 hB BA h0 h256
    go_loopg [11, 42] n (fun gg _ s42 wx => ∃ k : Nat, k ≤ n ∧ n - k ≤ gg ∧ s42 = .int .i64 k ∧ Aside (MkI w wx B (B + 1 + 1) (B + 1) k n m p lc))
    case atStart => exact ⟨0, Nat.zero_le _, by omega, rfl, (show Aside _ from M0.out)⟩
    case round =>
      obtain ⟨k, hk, hg, rfl, MK⟩ := hrel
      clear M0
      by_cases hlt : k < n
      · have hltz : (k : Int) < (n : Int) := by omega
        have x1 := MK.out.bx.cell (i := 1) (by omega)
        have xh := MK.out.hs.cell hlt
        have fh := MK.out.hs.frozen k
        have hH := MK.out.hs.lt
        have hC := MK.out.bx.lt
        rw [if_neg (by decide)] at x1
        rw [if_neg (by omega)] at xh
        have hne1 : ¬ wr.heap.size = B + 1 := by omega
        have hne2 : ¬ wr.heap.size = B + 1 + 1 := by omega
        have SP := hid (MK.out.step hlt (by omega))
        rw [World.setCell_alloc_past _ _ _ _ hH] at SP
        clear MK
        go_wp2
        go_region
        obtain ⟨W2, hW2⟩ : ∃ W2, W2 = ((wr.setCell ⟨B + 1, k, none⟩ (.slice (some ⟨wr.heap.size, 0, none⟩) m m)).alloc (.cells (madeCells #[.slice none 0 0] m) 39)).drew := ⟨_, rfl⟩
        rw [← hW2]
        have M2 := hid (show MkI w W2 B (B + 1 + 1) (B + 1) (k + 1) n m p lc by
          rw [hW2]
          exact ⟨SP.out.bx.of_block rfl, SP.out.hs.of_block rfl, fun i hi => (SP.out.rs i hi).of_block rfl, SP.out.sz, SP.out.be.drew⟩)
        clear hW2 SP x1 xh fh
        go_wp2
        go_roundg (n - (k + 1))
        case measure => omega
        case rel => exact ⟨k + 1, by omega, by omega, by go_num, (show Aside _ from M2.out)⟩
      · have hltz : ¬ (k : Int) < (n : Int) := by omega
        have ek : n = k := by omega
        subst ek
        have hBr : B ≤ wr.heap.size := by have := MK.out.sz; omega
        have CI := hid MK.out.circle
        have T0 := hid (show (wr.alloc (.cells (madeCells #[.int .i64 0] N) 26)).rowIs wr.heap.size 26 N (codeF []) from ⟨_, Deep.blk_alloc_new _ _, size_madeCells _ _, fun i hi => by simp [madeCells, hi, Nat.mod_one, codeF]⟩)
        clear MK mk2
        go_wp2
        clear mk3
        obtain ⟨W3, hW3⟩ : ∃ W3, W3 = wr.alloc (.cells (madeCells #[.int .i64 0] N) 26) := ⟨_, rfl⟩
        rw [← hW3] at T0 ⊢
        have b3 : Below wr.heap.size wr W3 := by rw [hW3]; exact (Below.refl _ _).alloc (Nat.le_refl _) _
        obtain ⟨TT, hTT⟩ : ∃ TT, TT = wr.heap.size := ⟨_, rfl⟩
        rw [← hTT] at T0 ⊢
        have G0 := hid (show PlG B (B + 1 + 1) (B + 1) TT (fun i => B + 3 + i) w W3 p lc n m N Plain.Stt.nil [] from ⟨CI.out.grow hBr b3, T0.out, by rw [hTT]; exact hBr⟩)
        clear hW3 b3 hTT T0 CI
        have GN := hid (Plain.Gok.nil n L)
        go_loopg [13, 14, 58] N (fun gg _ _ s58 wx => ∃ k : Nat, k ≤ N ∧ N - k ≤ gg ∧ s58 = .int .i64 k ∧ Aside (PlG B (B + 1 + 1) (B + 1) TT (fun i => B + 3 + i) w wx p lc n m N (Plain.stF n L Plain.Stt.nil (l.take k)) (Plain.goF n L Plain.Stt.nil (l.take k))))
        case atStart => exact ⟨0, Nat.zero_le _, by omega, rfl, (show Aside _ from G0.out)⟩
        case round =>
          obtain ⟨k, hkk, hgg, rfl, PG⟩ := hrel
          clear G0
          have hBr2 : B ≤ wr.heap.size := by have := PG.out.ci.be.size; rw [← HBB.out] at this; exact this
          by_cases hlk : k < N
          · have hlkz : (k : Int) < (N : Int) := by omega
            have hll : k < l.length := by rw [HN.out]; exact hlk
            have NTr := HNT.out.grow (show Below w.heap.size w wr by rw [← HBB.out]; exact PG.out.ci.be)
            obtain ⟨tb, tof, rfl, htb, hc⟩ := holdsT NTr (by omega)
            obtain ⟨c0, c1, c2, c3, c4, c5⟩ := hc k hll
            have ST := hid (Plain.stF_take n L Plain.Stt.nil l k hll)
            have GT := hid (Plain.goF_take n L Plain.Stt.nil l k hll)
            have GK := hid (show Plain.Gok n L (k : Int) (Plain.stF n L Plain.Stt.nil (l.take k)) from (GN.out.run hn (l.take k) ⟨by omega, by rw [List.length_take]; omega⟩).up (by rw [List.length_take]; omega))
            have GL := hid (show (Plain.goF n L Plain.Stt.nil (l.take k)).length = k by rw [Plain.goF_len, List.length_take]; omega)
            clear hc NTr
            generalize l.getD k default = t at c0 c1 c2 c3 c4 c5 ST GT
            generalize Plain.stF n L Plain.Stt.nil (l.take k) = s at PG ST GT GK
            generalize Plain.goF n L Plain.Stt.nil (l.take k) = D at PG GT GL
            have PA := hid (PG.out.grow hBr2 ((Below.refl wr.heap.size wr).alloc (Nat.le_refl _) (boxT t)))
            have K := do_c B (B + 1 + 1) (B + 1) (fun i => B + 3 + i) w p lc n L s t (k : Int) hn (by rw [HM.out]; omega) HL2.out GK.out ⟨by omega, by omega⟩ (wr.alloc (boxT t)) HBB.out.symm (by rw [HM.out]; exact PA.out.ci) HNL.out
            clear PG
            obtain ⟨kd, wh, tz, la, ke, va⟩ := t
            dsimp only at c0 c1 c2 c3 c4 c5
            go_wp2_with fail
            refine K.mono ?_
            rintro e w4 ⟨rfl, hci, hun⟩
            rw [HM.out] at hci
            have P4 := hid (PA.out.call hci hun)
            clear K hci hun PA c0 c1 c2 c3 c4 c5
            have y0 := P4.out.tl.cell (i := k) hlk
            have z0 := P4.out.tl.frozen k
            unfold codeF at y0
            have P5 := hid (P4.out.told (Plain.tuE n L s ⟨kd, wh, tz, la, ke, va⟩))
            rw [GL.out] at P5
            rw [← ST.out, ← GT.out] at P5
            generalize Plain.tuE n L s ⟨kd, wh, tz, la, ke, va⟩ = r at P5 ⊢
            clear P4 ST GT GK
            go_wp2
            go_roundg (N - (k + 1))
            case measure => omega
            case rel => exact ⟨k + 1, by omega, by omega, by go_num, (show Aside _ from P5.out)⟩
          · have hlkz : ¬ (k : Int) < (N : Int) := by omega
            have hall : l.take k = l := List.take_of_length_le (by rw [HN.out]; omega)
            have PE := PG.out
            rw [hall] at PE
            have hgl : (Plain.goF n L Plain.Stt.nil l).length = N := by rw [Plain.goF_len, HN.out]
            have e1 : Plain.codesV (n : Int) L l = Plain.goF n L Plain.Stt.nil l := by unfold Plain.codesV; rw [HE.out, Int.toNat_natCast]; rfl
            have e2 : Plain.cntV (n : Int) L l = n := by unfold Plain.cntV; rw [HE.out, Int.toNat_natCast]; rfl
            have x1 := PE.ci.cell1
            have HF := hid (fun q0 => show PlayP (n : Int) L l w (.returned (.tuple #[.slice (some ⟨TT, 0, none⟩) N N, .slice (some ⟨B + 1, 0, none⟩) n n, .int .i64 0])) (wr.drewN q0) from
              ⟨some ⟨TT, 0, none⟩, N, some ⟨B + 1, 0, none⟩, n, by rw [e1, e2, hgl, HE.out]; rfl, by rw [e1]; exact (PE.grow hBr2 (below_drewN (Below.refl _ _) q0)).nums hgl, by rw [e2, Int.toNat_natCast, HM.out]; exact (PE.grow hBr2 (below_drewN (Below.refl _ _) q0)).stores, by rw [← HBB.out]; exact below_drewN PE.ci.be q0⟩)
            clear PG PE hgl e1 e2 hall
            go_wp2
            go_quiet (fail)
            go_wp2
            go_ret3
            exact HF.out _

/-- gossip.Play. -/
theorem play_c (p : Option Addr) (m lc : Nat) (q : Option Addr) (N tc : Nat) (bn : Int) (L : List Int) (l : List Plain.Tu) (hmb : m ≤ 9223372036854775807) (hNb : N ≤ 9223372036854775807) (hm : L.length = m) (hN : l.length = N) (hwf : ∀ x, x ∈ L → -9223372036854775808 ≤ x ∧ x ≤ 9223372036854775807) (w : World) (NL : Nums w p L) (NT : encT.Holds w q l) :
    Calls Try.prog 9 #[.int .i64 bn, .slice p m lc, .slice q N tc] w fun e w' => PlayP bn L l w e w' := by
  by_cases h : bn < 1 ∨ 8 < bn
  · exact play_range _ _ bn L l h w
  · obtain ⟨n, rfl⟩ : ∃ n : Nat, bn = (n : Int) := ⟨bn.toNat, by omega⟩
    exact play_in p m lc q N tc n L l (by omega) (by omega) hmb hNb hm hN hwf w NL NT
end Go.Proofs.Ytdcgkeanghhopak
