/-
  frame.May.
-/
import Derived.Test.YtlmiomfbpeondanQ2
namespace Go.Proofs.Ytlmiomfbpeondan
open Go.RowKit Go.Shelf

set_option maxHeartbeats 4000000 in
theorem may_c (c : Plain.Cf) (lv mv : Value) (w : World) (hI : CfI w c lv mv) :
    Calls Try.prog 7 #[cfV c lv mv] w fun e w' => e = .returned (.bool (Plain.mayC c)) ∧ Below w.heap.size w w' := by
  have bA : Below w.heap.size w (w.alloc (boxC c lv mv)) := (Below.refl _ _).alloc (Nat.le_refl _) _
  have I0 := hid hI
  clear hI
  cases b0 : Plain.inR c.n 1 8 with
  | false =>
    have K0 := fun W => within_c c.n 1 8 W
    simp only [b0] at K0
    have HR := hid (show Plain.mayC c = false by unfold Plain.mayC; rw [b0]; rfl)
    clear b0
    have H0 := hid K0
    clear K0
    obtain ⟨lp, lc, rfl⟩ := seg_len I0.out.sl
    obtain ⟨mp, mc, rfl⟩ := seg_len I0.out.sm
    have I := hid (I0.out.grow bA)
    have HB := hid bA
    have HC := hid (CellC.start w c (.slice lp c.ls.length lc) (.slice mp c.ms.length mc))
    clear I0 bA
    obtain ⟨cn, ls, ct, ms, cap⟩ := c
    dsimp only at *
    go_enter Try.func7, Try.ntmps7
    go_wp2_with fail
    refine (H0.out _).mono ?_
    rintro e w0 ⟨rfl, hx⟩
    have hy := hx.symm
    clear hx
    subst hy
    clear H0
    go_wp2
    go_ret
    exact ⟨by rw [HR.out]; rfl, HB.out⟩
  | true =>
    obtain ⟨n, hn, h8⟩ : ∃ n : Nat, c.n = n ∧ n ≤ 8 := ⟨c.n.toNat, by have := (Plain.inR_iff _ _ _).1 b0; omega, by have := (Plain.inR_iff _ _ _).1 b0; omega⟩
    cases b1 : Plain.labsB c with
    | false =>
      have K0 := fun W => within_c c.n 1 8 W
      simp only [b0] at K0
      have K1 := fun W (I : CfI W c lv mv) => labels_ok c lv mv n hn h8 W I
      simp only [b1] at K1
      have HR := hid (show Plain.mayC c = false by unfold Plain.mayC; rw [b0, b1]; rfl)
      clear b0 b1 hn h8
      have H0 := hid K0
      have H1 := hid K1
      clear K0 K1
      obtain ⟨lp, lc, rfl⟩ := seg_len I0.out.sl
      obtain ⟨mp, mc, rfl⟩ := seg_len I0.out.sm
      have I := hid (I0.out.grow bA)
      have HB := hid bA
      have HC := hid (CellC.start w c (.slice lp c.ls.length lc) (.slice mp c.ms.length mc))
      clear I0 bA
      obtain ⟨cn, ls, ct, ms, cap⟩ := c
      dsimp only at *
      go_enter Try.func7, Try.ntmps7
      go_wp2_with fail
      refine (H0.out _).mono ?_
      rintro e w0 ⟨rfl, hx⟩
      have hy := hx.symm
      clear hx
      subst hy
      clear H0
      go_wp2_with fail
      refine (H1.out _ I.out).mono ?_
      rintro e w1 ⟨rfl, hb⟩
      have I2 := hid (I.out.grow hb)
      have HB2 := hid (HB.out.trans (hb.mono HB.out.size))
      have HC2 := hid (HC.out.below hb HC.out.lt)
      clear I HB HC H1 hb
      have I := I2
      have HB := HB2
      have HC := HC2
      clear I2 HB2 HC2
      go_wp2
      go_ret
      exact ⟨by rw [HR.out]; rfl, HB.out⟩
    | true =>
      cases b2 : Plain.inR c.t 1 8 with
      | false =>
        have K0 := fun W => within_c c.n 1 8 W
        simp only [b0] at K0
        have K1 := fun W (I : CfI W c lv mv) => labels_ok c lv mv n hn h8 W I
        simp only [b1] at K1
        have K2 := fun W => within_c c.t 1 8 W
        simp only [b2] at K2
        have HR := hid (show Plain.mayC c = false by unfold Plain.mayC; rw [b0, b1, b2]; rfl)
        clear b0 b1 b2 hn h8
        have H0 := hid K0
        have H1 := hid K1
        have H2 := hid K2
        clear K0 K1 K2
        obtain ⟨lp, lc, rfl⟩ := seg_len I0.out.sl
        obtain ⟨mp, mc, rfl⟩ := seg_len I0.out.sm
        have I := hid (I0.out.grow bA)
        have HB := hid bA
        have HC := hid (CellC.start w c (.slice lp c.ls.length lc) (.slice mp c.ms.length mc))
        clear I0 bA
        obtain ⟨cn, ls, ct, ms, cap⟩ := c
        dsimp only at *
        go_enter Try.func7, Try.ntmps7
        go_wp2_with fail
        refine (H0.out _).mono ?_
        rintro e w0 ⟨rfl, hx⟩
        have hy := hx.symm
        clear hx
        subst hy
        clear H0
        go_wp2_with fail
        refine (H1.out _ I.out).mono ?_
        rintro e w1 ⟨rfl, hb⟩
        have I2 := hid (I.out.grow hb)
        have HB2 := hid (HB.out.trans (hb.mono HB.out.size))
        have HC2 := hid (HC.out.below hb HC.out.lt)
        clear I HB HC H1 hb
        have I := I2
        have HB := HB2
        have HC := HC2
        clear I2 HB2 HC2
        obtain ⟨c0, c1, c2, c3, c4⟩ := HC.out
        go_wp2_with fail
        refine (H2.out _).mono ?_
        rintro e w0 ⟨rfl, hx⟩
        have hy := hx.symm
        clear hx
        subst hy
        clear H2
        go_wp2
        go_ret
        exact ⟨by rw [HR.out]; rfl, HB.out⟩
      | true =>
        cases b3 : Plain.inR (c.ms.length : Int) 1 3 with
        | false =>
          have K0 := fun W => within_c c.n 1 8 W
          simp only [b0] at K0
          have K1 := fun W (I : CfI W c lv mv) => labels_ok c lv mv n hn h8 W I
          simp only [b1] at K1
          have K2 := fun W => within_c c.t 1 8 W
          simp only [b2] at K2
          have K3 := fun W => within_c (c.ms.length : Int) 1 3 W
          simp only [b3] at K3
          have HR := hid (show Plain.mayC c = false by unfold Plain.mayC; rw [b0, b1, b2, b3]; rfl)
          clear b0 b1 b2 b3 hn h8
          have H0 := hid K0
          have H1 := hid K1
          have H2 := hid K2
          have H3 := hid K3
          clear K0 K1 K2 K3
          obtain ⟨lp, lc, rfl⟩ := seg_len I0.out.sl
          obtain ⟨mp, mc, rfl⟩ := seg_len I0.out.sm
          have I := hid (I0.out.grow bA)
          have HB := hid bA
          have HC := hid (CellC.start w c (.slice lp c.ls.length lc) (.slice mp c.ms.length mc))
          clear I0 bA
          obtain ⟨cn, ls, ct, ms, cap⟩ := c
          dsimp only at *
          go_enter Try.func7, Try.ntmps7
          go_wp2_with fail
          refine (H0.out _).mono ?_
          rintro e w0 ⟨rfl, hx⟩
          have hy := hx.symm
          clear hx
          subst hy
          clear H0
          go_wp2_with fail
          refine (H1.out _ I.out).mono ?_
          rintro e w1 ⟨rfl, hb⟩
          have I2 := hid (I.out.grow hb)
          have HB2 := hid (HB.out.trans (hb.mono HB.out.size))
          have HC2 := hid (HC.out.below hb HC.out.lt)
          clear I HB HC H1 hb
          have I := I2
          have HB := HB2
          have HC := HC2
          clear I2 HB2 HC2
          obtain ⟨c0, c1, c2, c3, c4⟩ := HC.out
          go_wp2_with fail
          refine (H2.out _).mono ?_
          rintro e w0 ⟨rfl, hx⟩
          have hy := hx.symm
          clear hx
          subst hy
          clear H2
          go_wp2_with fail
          refine (H3.out _).mono ?_
          rintro e w0 ⟨rfl, hx⟩
          have hy := hx.symm
          clear hx
          subst hy
          clear H3
          go_wp2
          go_ret
          exact ⟨by rw [HR.out]; rfl, HB.out⟩
        | true =>
          cases b4 : c.ms.all Plain.cntB with
          | false =>
            have K0 := fun W => within_c c.n 1 8 W
            simp only [b0] at K0
            have K1 := fun W (I : CfI W c lv mv) => labels_ok c lv mv n hn h8 W I
            simp only [b1] at K1
            have K2 := fun W => within_c c.t 1 8 W
            simp only [b2] at K2
            have K3 := fun W => within_c (c.ms.length : Int) 1 3 W
            simp only [b3] at K3
            have K4 := fun W (I : CfI W c lv mv) => counts_c mv c.ms W I.bm I.sm I.lm
            simp only [b4] at K4
            have HR := hid (show Plain.mayC c = false by unfold Plain.mayC; rw [b0, b1, b2, b3, b4]; rfl)
            clear b0 b1 b2 b3 b4 hn h8
            have H0 := hid K0
            have H1 := hid K1
            have H2 := hid K2
            have H3 := hid K3
            have H4 := hid K4
            clear K0 K1 K2 K3 K4
            obtain ⟨lp, lc, rfl⟩ := seg_len I0.out.sl
            obtain ⟨mp, mc, rfl⟩ := seg_len I0.out.sm
            have I := hid (I0.out.grow bA)
            have HB := hid bA
            have HC := hid (CellC.start w c (.slice lp c.ls.length lc) (.slice mp c.ms.length mc))
            clear I0 bA
            obtain ⟨cn, ls, ct, ms, cap⟩ := c
            dsimp only at *
            go_enter Try.func7, Try.ntmps7
            go_wp2_with fail
            refine (H0.out _).mono ?_
            rintro e w0 ⟨rfl, hx⟩
            have hy := hx.symm
            clear hx
            subst hy
            clear H0
            go_wp2_with fail
            refine (H1.out _ I.out).mono ?_
            rintro e w1 ⟨rfl, hb⟩
            have I2 := hid (I.out.grow hb)
            have HB2 := hid (HB.out.trans (hb.mono HB.out.size))
            have HC2 := hid (HC.out.below hb HC.out.lt)
            clear I HB HC H1 hb
            have I := I2
            have HB := HB2
            have HC := HC2
            clear I2 HB2 HC2
            obtain ⟨c0, c1, c2, c3, c4⟩ := HC.out
            go_wp2_with fail
            refine (H2.out _).mono ?_
            rintro e w0 ⟨rfl, hx⟩
            have hy := hx.symm
            clear hx
            subst hy
            clear H2
            go_wp2_with fail
            refine (H3.out _).mono ?_
            rintro e w0 ⟨rfl, hx⟩
            have hy := hx.symm
            clear hx
            subst hy
            clear H3
            go_wp2_with fail
            refine (H4.out _ I.out).mono ?_
            rintro e w4 ⟨rfl, hb⟩
            have I2 := hid (I.out.grow hb)
            have HB2 := hid (HB.out.trans (hb.mono HB.out.size))
            have HC2 := hid (HC.out.below hb HC.out.lt)
            clear I HB HC H4 hb
            have I := I2
            have HB := HB2
            have HC := HC2
            clear I2 HB2 HC2
            go_wp2
            go_ret
            exact ⟨by rw [HR.out]; rfl, HB.out⟩
          | true =>
            cases b5 : Plain.inR c.cap 0 1048576 with
            | false =>
              have K0 := fun W => within_c c.n 1 8 W
              simp only [b0] at K0
              have K1 := fun W (I : CfI W c lv mv) => labels_ok c lv mv n hn h8 W I
              simp only [b1] at K1
              have K2 := fun W => within_c c.t 1 8 W
              simp only [b2] at K2
              have K3 := fun W => within_c (c.ms.length : Int) 1 3 W
              simp only [b3] at K3
              have K4 := fun W (I : CfI W c lv mv) => counts_c mv c.ms W I.bm I.sm I.lm
              simp only [b4] at K4
              have K5 := fun W => within_c c.cap 0 1048576 W
              simp only [b5] at K5
              have HR := hid (show Plain.mayC c = false by unfold Plain.mayC; rw [b0, b1, b2, b3, b4, b5]; rfl)
              clear b0 b1 b2 b3 b4 b5 hn h8
              have H0 := hid K0
              have H1 := hid K1
              have H2 := hid K2
              have H3 := hid K3
              have H4 := hid K4
              have H5 := hid K5
              clear K0 K1 K2 K3 K4 K5
              obtain ⟨lp, lc, rfl⟩ := seg_len I0.out.sl
              obtain ⟨mp, mc, rfl⟩ := seg_len I0.out.sm
              have I := hid (I0.out.grow bA)
              have HB := hid bA
              have HC := hid (CellC.start w c (.slice lp c.ls.length lc) (.slice mp c.ms.length mc))
              clear I0 bA
              obtain ⟨cn, ls, ct, ms, cap⟩ := c
              dsimp only at *
              go_enter Try.func7, Try.ntmps7
              go_wp2_with fail
              refine (H0.out _).mono ?_
              rintro e w0 ⟨rfl, hx⟩
              have hy := hx.symm
              clear hx
              subst hy
              clear H0
              go_wp2_with fail
              refine (H1.out _ I.out).mono ?_
              rintro e w1 ⟨rfl, hb⟩
              have I2 := hid (I.out.grow hb)
              have HB2 := hid (HB.out.trans (hb.mono HB.out.size))
              have HC2 := hid (HC.out.below hb HC.out.lt)
              clear I HB HC H1 hb
              have I := I2
              have HB := HB2
              have HC := HC2
              clear I2 HB2 HC2
              obtain ⟨c0, c1, c2, c3, c4⟩ := HC.out
              go_wp2_with fail
              refine (H2.out _).mono ?_
              rintro e w0 ⟨rfl, hx⟩
              have hy := hx.symm
              clear hx
              subst hy
              clear H2
              go_wp2_with fail
              refine (H3.out _).mono ?_
              rintro e w0 ⟨rfl, hx⟩
              have hy := hx.symm
              clear hx
              subst hy
              clear H3
              go_wp2_with fail
              refine (H4.out _ I.out).mono ?_
              rintro e w4 ⟨rfl, hb⟩
              have I2 := hid (I.out.grow hb)
              have HB2 := hid (HB.out.trans (hb.mono HB.out.size))
              have HC2 := hid (HC.out.below hb HC.out.lt)
              clear I HB HC H4 hb
              have I := I2
              have HB := HB2
              have HC := HC2
              clear I2 HB2 HC2
              obtain ⟨c0, c1, c2, c3, c4⟩ := HC.out
              go_wp2_with fail
              refine (H5.out _).mono ?_
              rintro e w0 ⟨rfl, hx⟩
              have hy := hx.symm
              clear hx
              subst hy
              clear H5
              go_wp2
              go_ret
              exact ⟨by rw [HR.out]; rfl, HB.out⟩
            | true =>
              have K0 := fun W => within_c c.n 1 8 W
              simp only [b0] at K0
              have K1 := fun W (I : CfI W c lv mv) => labels_ok c lv mv n hn h8 W I
              simp only [b1] at K1
              have K2 := fun W => within_c c.t 1 8 W
              simp only [b2] at K2
              have K3 := fun W => within_c (c.ms.length : Int) 1 3 W
              simp only [b3] at K3
              have K4 := fun W (I : CfI W c lv mv) => counts_c mv c.ms W I.bm I.sm I.lm
              simp only [b4] at K4
              have K5 := fun W => within_c c.cap 0 1048576 W
              simp only [b5] at K5
              have HR := hid (show Plain.mayC c = true by unfold Plain.mayC; rw [b0, b1, b2, b3, b4, b5]; rfl)
              clear b0 b1 b2 b3 b4 b5 hn h8
              have H0 := hid K0
              have H1 := hid K1
              have H2 := hid K2
              have H3 := hid K3
              have H4 := hid K4
              have H5 := hid K5
              clear K0 K1 K2 K3 K4 K5
              obtain ⟨lp, lc, rfl⟩ := seg_len I0.out.sl
              obtain ⟨mp, mc, rfl⟩ := seg_len I0.out.sm
              have I := hid (I0.out.grow bA)
              have HB := hid bA
              have HC := hid (CellC.start w c (.slice lp c.ls.length lc) (.slice mp c.ms.length mc))
              clear I0 bA
              obtain ⟨cn, ls, ct, ms, cap⟩ := c
              dsimp only at *
              go_enter Try.func7, Try.ntmps7
              go_wp2_with fail
              refine (H0.out _).mono ?_
              rintro e w0 ⟨rfl, hx⟩
              have hy := hx.symm
              clear hx
              subst hy
              clear H0
              go_wp2_with fail
              refine (H1.out _ I.out).mono ?_
              rintro e w1 ⟨rfl, hb⟩
              have I2 := hid (I.out.grow hb)
              have HB2 := hid (HB.out.trans (hb.mono HB.out.size))
              have HC2 := hid (HC.out.below hb HC.out.lt)
              clear I HB HC H1 hb
              have I := I2
              have HB := HB2
              have HC := HC2
              clear I2 HB2 HC2
              obtain ⟨c0, c1, c2, c3, c4⟩ := HC.out
              go_wp2_with fail
              refine (H2.out _).mono ?_
              rintro e w0 ⟨rfl, hx⟩
              have hy := hx.symm
              clear hx
              subst hy
              clear H2
              go_wp2_with fail
              refine (H3.out _).mono ?_
              rintro e w0 ⟨rfl, hx⟩
              have hy := hx.symm
              clear hx
              subst hy
              clear H3
              go_wp2_with fail
              refine (H4.out _ I.out).mono ?_
              rintro e w4 ⟨rfl, hb⟩
              have I2 := hid (I.out.grow hb)
              have HB2 := hid (HB.out.trans (hb.mono HB.out.size))
              have HC2 := hid (HC.out.below hb HC.out.lt)
              clear I HB HC H4 hb
              have I := I2
              have HB := HB2
              have HC := HC2
              clear I2 HB2 HC2
              obtain ⟨c0, c1, c2, c3, c4⟩ := HC.out
              go_wp2_with fail
              refine (H5.out _).mono ?_
              rintro e w0 ⟨rfl, hx⟩
              have hy := hx.symm
              clear hx
              subst hy
              clear H5
              go_wp2
              go_ret
              exact ⟨by rw [HR.out]; rfl, HB.out⟩
end Go.Proofs.Ytlmiomfbpeondan
