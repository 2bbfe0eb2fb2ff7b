/-
  The document's GossipPlayed: the walk.
-/
import Derived.Test.YtdcgkeanghhopakRsb
namespace Go.Proofs.Ytdcgkeanghhopak
open Go.RowKit Go.Shelf Go.Sort

set_option maxHeartbeats 4000000 in
set_option maxRecDepth 100000 in
theorem rplay_range (lv tv : Value) (bn : Int) (L : List Int) (l : List Plain.Tu) (h : bn < 1 ∨ 8 < bn) (w : World) :
    Calls Try.prog 10 #[.int .i64 bn, lv, tv] w fun e w' => PlayP bn L l w e w' := by
  have P0 := hid (playP_no (L := L) (l := l) (bn := bn) (E := 2) (by unfold Plain.goE; rw [if_pos h]) (by decide) (Below.refl w.heap.size w))
  rcases h with h | h
  all_goals
    go_enter Try.func10, Try.ntmps10
    go_wp2
    go_ret3
    exact P0.out

set_option maxHeartbeats 8000000 in
set_option maxRecDepth 100000 in
theorem rplay_in (p : Option Addr) (m lc : Nat) (q : Option Addr) (N tc : Nat) (n : Nat) (L : List Int) (l : List Plain.Tu) (hn1 : 1 ≤ n) (hn : n ≤ 8) (hmb : m ≤ 9223372036854775807) (hNb : N ≤ 9223372036854775807) (hm : L.length = m) (hN : l.length = N) (hwf : ∀ x, x ∈ L → -9223372036854775808 ≤ x ∧ x ≤ 9223372036854775807) (w : World) (NL : Nums w p L) (NT : encT.Holds w q l) :
    Calls Try.prog 10 #[.int .i64 (n : Int), .slice p m lc, .slice q N tc] w fun e w' => PlayP (n : Int) L l w e w' := by
  have hp1 := LabP.pow_le hn
  have hz : ((2 ^ n : Nat) : Int) = (2 : Int) ^ n := by simp
  have h0 : (0 : Int) ≤ 2 ^ n := Int.pow_nonneg (by decide)
  have h256 : (2 : Int) ^ n ≤ 256 := by omega
  have hn1z : ¬ (n : Int) < 1 := by omega
  have hn8z : ¬ 8 < (n : Int) := by omega
  have DG : Plain.goE (n : Int) L l = if L.any (fun s => decide (s < 0 ∨ (2 : Int) ^ n ≤ s)) = true then 2 else if 4 < m ∨ 300 < N then 1 else 0 := by
    unfold Plain.goE
    rw [if_neg (by omega), Int.toNat_natCast, hm, hN]
  have HDG := hid DG
  have HWF := hid hwf
  have HNL := hid NL
  have HNT := hid NT
  have HM := hid hm
  have HN := hid hN
  clear DG hz hwf NL NT hm hN hp1
  go_enter Try.func10, Try.ntmps10
  go_wp2
  go_loopg [10, 27] m (fun gg _ s27 wx => ∃ k : Nat, k ≤ m ∧ m - k ≤ gg ∧ s27 = .int .i64 k ∧ wx = w ∧ Aside (∀ j, j < k → 0 ≤ L.getD j 0 ∧ L.getD j 0 < 2 ^ n))
  case atStart => exact ⟨0, Nat.zero_le _, by omega, rfl, rfl, (show Aside _ from fun j hj => absurd hj (by omega))⟩
  case round =>
    obtain ⟨k, hk, hg, rfl, hw, A⟩ := hrel
    have hy := hw.symm
    clear hw
    subst hy
    by_cases hlt : k < m
    · have hltz : (k : Int) < (m : Int) := by omega
      have hkl : k < L.length := by rw [HM.out]; exact hlt
      obtain ⟨lb, lo, rfl, hlb, lcs⟩ := HNL.out (by omega)
      have c0 := lcs k hkl
      have hmem := getD_mem L 0 hkl
      have hwx := HWF.out _ hmem
      have HMEM := hid hmem
      have HA := hid A.out
      obtain ⟨x, hx⟩ : ∃ x, x = L.getD k 0 := ⟨_, rfl⟩
      rw [← hx] at c0 HMEM hwx
      have HX := hid hx
      have PB := hid (fun (hb : x < 0 ∨ (2 : Int) ^ n ≤ x) => playP_no (w := w) (w' := w) (E := 2) (HDG.out.trans (by rw [if_pos (List.any_eq_true.2 ⟨x, HMEM.out, decide_eq_true hb⟩)])) (by decide) (Below.refl _ _))
      clear lcs hx hmem A
      by_cases hx0 : x < 0
      · have P0 := hid (PB.out (.inl hx0))
        clear PB
        go_wp2
        go_ret3
        exact P0.out
      by_cases hx1 : (2 : Int) ^ n ≤ x
      · have P0 := hid (PB.out (.inr hx1))
        clear PB
        go_wp2
        go_ret3
        exact P0.out
      have HA2 := hid (show ∀ j, j < k + 1 → 0 ≤ L.getD j 0 ∧ L.getD j 0 < 2 ^ n from fun j hj => by
        by_cases e : j = k
        · rw [e, ← HX.out]; omega
        · exact HA.out j (by omega))
      clear PB HA HX HMEM
      go_wp2
      go_roundg (m - (k + 1))
      case measure => omega
      case rel => exact ⟨k + 1, by omega, by omega, by go_num, rfl, (show Aside _ from HA2.out)⟩
    · have hltz : ¬ (k : Int) < (m : Int) := by omega
      have hkm : k = m := by omega
      have HL := hid (show ∀ x, x ∈ L → 0 ≤ x ∧ x < 2 ^ n from fun x hx => by
        obtain ⟨j, hj, e⟩ := List.getElem_of_mem hx
        have := A.out j (by rw [hkm, ← HM.out]; exact hj)
        rw [List.getD_eq_getElem?_getD, List.getElem?_eq_getElem hj] at this
        rw [← e]; exact this)
      have hbad : L.any (fun s => decide (s < 0 ∨ (2 : Int) ^ n ≤ s)) = false := by
        rw [List.any_eq_false]
        intro x hx
        have := HL.out x hx
        simp only [decide_eq_true_eq]
        omega
      have HL2 := hid (show ∀ x, x ∈ L → 0 ≤ x ∧ x < 256 from fun x hx => by have := HL.out x hx; omega)
      have HDG2 := hid (show Plain.goE (n : Int) L l = if 4 < m ∨ 300 < N then 1 else 0 by rw [HDG.out, hbad]; rfl)
      clear hbad HDG A HL hkm
      by_cases hm4 : 4 < m
      · have P0 := hid (playP_no (w := w) (w' := w) (E := 1) (HDG2.out.trans (by rw [if_pos (.inl hm4)])) (by decide) (Below.refl _ _))
        have hm4z : (4 : Int) < (m : Int) := by omega
        clear HDG2
        go_wp2
        go_ret3
        exact P0.out
      by_cases hN3 : 300 < N
      · have P0 := hid (playP_no (w := w) (w' := w) (E := 1) (HDG2.out.trans (by rw [if_pos (.inr hN3)])) (by decide) (Below.refl _ _))
        have hm4z : ¬ (4 : Int) < (m : Int) := by omega
        have hN3z : (300 : Int) < (N : Int) := by omega
        clear HDG2
        go_wp2
        go_ret3
        exact P0.out
      have HE := hid (show Plain.goE (n : Int) L l = 0 by rw [HDG2.out, if_neg (by omega)])
      have hm4z : ¬ (4 : Int) < (m : Int) := by omega
      have hN3z : ¬ (300 : Int) < (N : Int) := by omega
      have KN := newShelves_c n hn1 hn p m lc (by omega) w
      clear HDG2
      go_wp2_with fail
      refine KN.mono ?_
      rintro e W1 ⟨S, HO, IO, hb, ib, hc, ic, rfl, hI1⟩
      have I1 := hid hI1
      obtain ⟨B, hB⟩ : ∃ B, B = w.heap.size := ⟨_, rfl⟩
      rw [← hB] at I1
      have HBB := hid hB
      have hB1 : B ≤ W1.heap.size := by rw [hB]; exact hI1.be.size
      clear KN hI1 hB h0 h256 hm4z hN3z
      go_wp2
      have GN := hid (Plain.Gok.nil n L)
      go_loopg [12, 14, 53] N (fun gg s12 _ s53 wx => ∃ (k : Nat) (pc : Option Addr) (cc : Nat), k ≤ N ∧ N - k ≤ gg ∧ s53 = .int .i64 k ∧ s12 = .slice pc k cc ∧ B ≤ wx.heap.size ∧ Aside (∃ f : Plain.Shv, RpI B S HO IO hb ib w wx p lc n m hc ic f (.slice pc k cc) k (Plain.goF n L Plain.Stt.nil (l.take k)) ∧ f.Ok ∧ f.st = Plain.stF n L Plain.Stt.nil (l.take k)))
      case atStart => exact ⟨0, none, 0, Nat.zero_le _, by omega, rfl, rfl, hB1, (show Aside _ from ⟨Plain.Shv.nil, ⟨I1.out, World.ownsRow_nil _ _ _ _⟩, Plain.Shv.Ok.nil, Plain.st_nil⟩)⟩
      case round =>
        obtain ⟨k, pc, cc, hkk, hgg, rfl, rfl, hBr, A⟩ := hrel
        clear I1
        obtain ⟨f, hR, okf, stf⟩ := A.out
        have R0 := hid hR
        have OKF := hid okf
        have STF := hid stf
        clear A hR okf stf
        by_cases hlk : k < N
        · have hlkz : (k : Int) < (N : Int) := by omega
          have hll : k < l.length := by rw [HN.out]; exact hlk
          have NTr := HNT.out.grow (show Below w.heap.size w wr by rw [← HBB.out]; exact R0.out.sh.be)
          obtain ⟨tb, tof, rfl, htb, hcs⟩ := holdsT NTr (by omega)
          obtain ⟨c0, c1, c2, c3, c4, c5⟩ := hcs k hll
          have ST := hid (Plain.stF_take n L Plain.Stt.nil l k hll)
          have GT := hid (Plain.goF_take n L Plain.Stt.nil l k hll)
          have GK := hid (show Plain.Gok n L (k : Int) f.st by rw [STF.out]; exact (GN.out.run hn (l.take k) ⟨by omega, by rw [List.length_take]; omega⟩).up (by rw [List.length_take]; omega))
          have HMX := hid (show ∀ i j, Plain.maxA (f i j) 8 ≤ (k : Int) from fun i j => by
            rw [← Plain.maxA_list]
            exact Plain.maxT_le (by omega) fun e he => (GK.out.may i j e he).2.2.1)
          clear hcs NTr
          generalize l.getD k default = t at c0 c1 c2 c3 c4 c5 ST GT
          rw [← STF.out] at ST GT
          have bA : Below wr.heap.size wr (wr.alloc (boxT t)) := (Below.refl _ _).alloc (Nat.le_refl _) _
          have RA := hid (R0.out.grow hBr bA)
          have hBA : B ≤ (wr.alloc (boxT t)).heap.size := Nat.le_trans hBr bA.size
          have K := turn_c B S HO IO hb ib w p lc n hc ic L f t (k : Int) hn (by rw [HM.out]; omega) HL2.out OKF.out HMX.out (by omega) (wr.alloc (boxT t)) HBB.out.symm hBA HNL.out (by rw [HM.out]; exact RA.out.sh)
          clear R0 bA
          generalize Plain.goF n L Plain.Stt.nil (l.take k) = D at RA GT
          obtain ⟨kd, wh, tz, la, ke, va⟩ := t
          dsimp only at c0 c1 c2 c3 c4 c5
          go_wp2_with fail
          refine K.mono ?_
          rintro e w4 ⟨f', rfl, hi4, ok4, st4, un4⟩
          rw [HM.out] at hi4
          have R4 := hid (RA.out.turn hi4 un4)
          have hB4 : B ≤ w4.heap.size := Nat.le_trans hBA un4.size
          have OK4 := hid ok4
          have ST4 := hid (show f'.st = Plain.stF n L Plain.Stt.nil (l.take (k + 1)) by rw [ST.out]; exact st4)
          clear K hi4 ok4 st4 un4 RA c0 c1 c2 c3 c4 c5 hBA ST
          obtain ⟨p5, c5, U5, run5, hB5, R5⟩ := R4.out.told hB4 (by omega) (Plain.tuE n L f.st ⟨kd, wh, tz, la, ke, va⟩)
          rw [← GT.out] at R5
          have RUN := hid run5
          have HR5 := hid R5
          clear run5 R5 R4 GT
          generalize Plain.tuE n L f.st ⟨kd, wh, tz, la, ke, va⟩ = r at RUN ⊢
          go_wp2_with (first | (at_builtin; refine wpList_app _ _ 24 RUN.out (by rfl) (by rfl) (by rfl) (by rfl) (by rfl) ?_) | fail)
          go_wp2
          go_roundg (N - (k + 1))
          case measure => omega
          case rel => exact ⟨k + 1, p5, c5, by omega, by omega, by go_num, rfl, hB5, (show Aside _ from ⟨f', HR5.out, OK4.out, ST4.out⟩)⟩
        · have hlkz : ¬ (k : Int) < (N : Int) := by omega
          have hall : l.take k = l := List.take_of_length_le (by rw [HN.out]; omega)
          have ekN : k = N := by omega
          subst ekN
          rw [hall] at R0 STF
          have HGL := hid (show (Plain.goF n L Plain.Stt.nil l).length = k by rw [Plain.goF_len, HN.out])
          obtain ⟨D, hD⟩ : ∃ D, D = Plain.goF n L Plain.Stt.nil l := ⟨_, rfl⟩
          rw [← hD] at R0 HGL
          have HD := hid hD
          clear hall hD
          go_wp2
          go_loopg [15, 16, 17, 18] n (fun gg s15 s16 _ _ wx => ∃ (i : Nat) (pa : Option Addr) (ca : Nat), i ≤ n ∧ n - i ≤ gg ∧ s16 = .int .i64 i ∧ s15 = .slice pa i ca ∧ B ≤ wx.heap.size ∧ Aside (RpI B S HO IO hb ib w wx p lc n m hc ic f (.slice pc k cc) k D) ∧ Aside (∃ r q, AlI B m wx (.slice pa i ca) i r q f.st))
          case atStart => exact ⟨0, none, 0, Nat.zero_le _, by omega, rfl, rfl, hBr, (show Aside _ from R0.out), (show Aside _ from ⟨fun _ => .slice none 0 0, fun _ _ => .slice none 0 0, World.ownsRow_nil _ _ _ _, fun a ha => absurd ha (by omega), fun a ha => absurd ha (by omega)⟩)⟩
          case round =>
            obtain ⟨i, pa, ca, hi, hgi, rfl, rfl, hBi, AR, AA⟩ := hrel
            obtain ⟨r, qq, hAl⟩ := AA.out
            have RR := hid AR.out
            have AL := hid hAl
            clear AR AA hAl R0
            by_cases hlti : i < n
            · have hltiz : (i : Int) < (n : Int) := by omega
              obtain ⟨W, hW⟩ : ∃ W, W = wr := ⟨_, rfl⟩
              have HW := hid (show MiI W W (.slice none 0 0) 0 (fun _ => .slice none 0 0) (f.st i) from ⟨World.ownsRow_nil _ _ _ _, fun a ha => absurd ha (by omega), Below.refl _ _⟩)
              subst hW
              go_wp2
              go_loopg [17, 18, 72] m (fun gg s17 _ s72 wx => ∃ (j : Nat) (pm : Option Addr) (cm : Nat), j ≤ m ∧ m - j ≤ gg ∧ s72 = .int .i64 j ∧ s17 = .slice pm j cm ∧ Aside (∃ q', MiI W wx (.slice pm j cm) j q' (f.st i)))
              case atStart => exact ⟨0, none, 0, Nat.zero_le _, by omega, rfl, rfl, (show Aside _ from ⟨_, HW.out⟩)⟩
              case round =>
                obtain ⟨j, pm, cm, hj, hgj, rfl, rfl, AM⟩ := hrel
                clear HW
                obtain ⟨q', hMi⟩ := AM.out
                have MI := hid hMi
                have hBx : B ≤ wr.heap.size := Nat.le_trans hBi hMi.be.size
                have RX := hid (RR.out.grow hBi hMi.be)
                clear AM hMi
                by_cases hltj : j < m
                · have hltjz : (j : Int) < (m : Int) := by omega
                  have K := list_c B S HO IO hb ib w p lc n m hc ic f i j hlti hltj wr hBx RX.out.sh
                  go_wp2_with fail
                  refine K.mono ?_
                  rintro e w1 ⟨ql, cl, rfl, hE⟩
                  obtain ⟨p2, c2, U2, run2, M2⟩ := MI.out.snoc (by omega) hE rfl
                  have RUN := hid run2
                  have HM2 := hid M2
                  clear K hE run2 M2 MI RX
                  generalize (f.st i j).length = ln at RUN ⊢
                  go_wp2_with (first | (at_builtin; refine wpList_app _ _ 40 RUN.out (by rfl) (by rfl) (by rfl) (by rfl) (by rfl) ?_) | fail)
                  go_wp2
                  go_roundg (m - (j + 1))
                  case measure => omega
                  case rel => exact ⟨j + 1, p2, c2, by omega, by omega, by go_num, rfl, (show Aside _ from ⟨_, HM2.out⟩)⟩
                · have hltjz : ¬ (j : Int) < (m : Int) := by omega
                  have ejm : j = m := by omega
                  subst ejm
                  obtain ⟨p3, c3, U3, run3, own3, gr3, A3⟩ := AL.out.snoc (by omega) hBi MI.out rfl
                  have bA : Below wr.heap.size wr (wr.alloc (.cells #[.slice pm j cm] 40)) := (Below.refl _ _).alloc (Nat.le_refl _) _
                  have RB := RX.out.grow hBx bA
                  have R3 := hid (show RpI B S HO IO hb ib w U3 p lc n j hc ic f (.slice pc k cc) k D from ⟨RB.sh.grown own3 (by decide) (by decide) (by decide) (by decide) (by decide) (Nat.le_refl _) (Nat.le_trans hBx bA.size) gr3, owns_other RB.co own3 (by decide) gr3⟩)
                  have hB3 : B ≤ U3.heap.size := Nat.le_trans (Nat.le_trans hBx bA.size) gr3.size
                  have RUN := hid run3
                  have HA3 := hid A3
                  clear run3 own3 gr3 A3 bA RB MI RX AL RR
                  go_wp2_with (first | (at_builtin; refine wpList_app _ _ 25 RUN.out (by rfl) (by rfl) (by rfl) (by rfl) (by rfl) ?_) | fail)
                  go_wp2
                  go_roundg (n - (i + 1))
                  case measure => omega
                  case rel => exact ⟨i + 1, p3, c3, by omega, by omega, by go_num, rfl, hB3, (show Aside _ from R3.out), (show Aside _ from ⟨_, _, HA3.out⟩)⟩
            · have hltiz : ¬ (i : Int) < (n : Int) := by omega
              have ein : i = n := by omega
              subst ein
              have HF := hid (show PlayP (i : Int) L l w (.returned (.tuple #[.slice pc k cc, .slice pa i ca, .int .i64 0])) wr by
                have e1 : Plain.codesV (i : Int) L l = D := by unfold Plain.codesV; rw [HE.out, Int.toNat_natCast, HD.out]; rfl
                have e2 : Plain.cntV (i : Int) L l = i := by unfold Plain.cntV; rw [HE.out, Int.toNat_natCast]; rfl
                refine ⟨pc, cc, pa, ca, by rw [e1, e2, HGL.out, HE.out]; rfl, by rw [e1]; exact codes_nums RR.out.co HGL.out, ?_, by rw [← HBB.out]; exact RR.out.sh.be⟩
                rw [e2, Int.toNat_natCast, HM.out, ← STF.out]
                exact AL.out.stores)
              clear RR AL
              go_wp2
              go_ret3
              exact HF.out

theorem rplay_c (p : Option Addr) (m lc : Nat) (q : Option Addr) (N tc : Nat) (bn : Int) (L : List Int) (l : List Plain.Tu) (hmb : m ≤ 9223372036854775807) (hNb : N ≤ 9223372036854775807) (hm : L.length = m) (hN : l.length = N) (hwf : ∀ x, x ∈ L → -9223372036854775808 ≤ x ∧ x ≤ 9223372036854775807) (w : World) (NL : Nums w p L) (NT : encT.Holds w q l) :
    Calls Try.prog 10 #[.int .i64 bn, .slice p m lc, .slice q N tc] w fun e w' => PlayP bn L l w e w' := by
  by_cases h : bn < 1 ∨ 8 < bn
  · exact rplay_range _ _ bn L l h w
  · obtain ⟨n, rfl⟩ : ∃ n : Nat, bn = (n : Int) := ⟨bn.toNat, by omega⟩
    exact rplay_in p m lc q N tc n L l (by omega) (by omega) hmb hNb hm hN hwf w NL NT
end Go.Proofs.Ytdcgkeanghhopak
