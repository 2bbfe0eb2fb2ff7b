/- Proved: at every two 64-bit integers and every list of 64-bit integers the law ShareLeaves returns true: who takes its share and leaves changes nothing for the others. Conditions: none. -/
import Derived.Test.YtiddpkhmdjjmdahRows
import Derived.WalkKit
import Derived.ProofKit
import Derived.OpenShut
import Derived.WalkSmall
import Derived.ShutString
import Derived.ChangeOld
import Derived.Below
import Derived.Test.YtiddpkhmdjjmdahHg
import Derived.Test.YtiddpkhmdjjmdahHk
import Derived.Deep.RegionLaw
import Derived.Deep.RegionHeld3
namespace Go.Proofs.Ytiddpkhmdjjmdah
namespace shareLeaves
open Go.ChangeShapes Go.WideShapes Go.ChangeAt Go.RowKit
set_option linter.unusedVariables false

theorem own : ownKnob Try.prog.godebug = none := by kernel_rfl
theorem laidOut : laidOutB Try.prog = true := by kernel_rfl

theorem ints_seg {H : Type} {enc : TypeId × Value → H} {W : World} {d : DataW H} {p : List MemPlace} {a : Option Addr} {len cap : Nat} (h : DataW.Trod enc Try.prog W 0 (fun _ => true) true 22 (.slice a len cap) d p) :
    ∃ l : List Int, l.length = len ∧ len ≤ cap ∧ cap ≤ 9223372036854775807 ∧ (∀ n ∈ l, (Lit.int .i64 n).wf = true) ∧ Lies W.heap.size (.slice a len cap) ∧ Seg W (.slice a len cap) l := by
  obtain ⟨fuel, hf⟩ := h
  rcases open_ints Try.underlying22 Try.underlying3 (by kernel_rfl) hf with ⟨hcs, _⟩ | ⟨x, l, c, zs, hcs, _, hl, hm, hz, _, hcell, hwz⟩
  · simp [Value.cells] at hcs
    obtain ⟨rfl, rfl, rfl⟩ := hcs
    exact row_seg (zs := []) (.inl ⟨rfl, rfl, rfl, rfl⟩)
  · simp [Value.cells] at hcs
    obtain ⟨rfl, rfl, rfl⟩ := hcs
    exact row_seg (.inr ⟨_, rfl, hl, hm, by simpa using hz, hcell, hwz⟩)

set_option maxHeartbeats 4000000 in
set_option maxRecDepth 100000 in
theorem walk (w : World) (a0 : Int) (w0 : -9223372036854775808 ≤ a0 ∧ a0 ≤ 9223372036854775807) (v1 : Value) (l1 : List Int) (hm1 : l1.length ≤ 9223372036854775807) (hr1 : ∀ n ∈ l1, (Lit.int .i64 n).wf = true) (s1 : Seg w v1 l1) (y1 : Lies w.heap.size v1) (a2 : Int) (w2 : -9223372036854775808 ≤ a2 ∧ a2 ≤ 9223372036854775807) :
    Calls Try.prog 6 #[.int .i64 a0, v1, .int .i64 a2] w fun e w' => e = .returned (.bool true) ∧ Below w.heap.size w w' := by
  obtain ⟨p1, c1, rfl, hp1⟩ := seg_wants s1 y1
  have K0 := wantsOf_c p1 l1.length c1 l1 hr1 hm1 w rfl hp1
  clear s1 y1 hp1 hr1
  obtain ⟨v1, v2⟩ := w0
  obtain ⟨z2, y2⟩ := w2
  go_enter Try.func6, Try.ntmps6
  go_wp2_with fail
  refine K0.mono ?_
  rintro e W1 ⟨r, rfl, hown, hb1⟩
  clear K0
  obtain ⟨g, c, W2, hrun, hR, hg, hc, hb2⟩ := plus_c 8 hown rfl (by have := Plain.wantL_len l1; omega) hb1
  obtain ⟨pr, cr, rfl, _, _⟩ := owns_wants hown rfl
  have hlen : (Plain.wantL l1 ++ [8]).length = (Plain.wantL l1).length + 1 := by simp
  have hwl := Plain.wantL_len l1
  have SM := hid (Plain.small_plus l1 8 (by omega) (by omega))
  have S9 := hid (show 8 ≤ Plain.sumL (Plain.wantL l1 ++ [8]) by
    rw [Plain.sumL_app]; have := (Plain.sumL_bd (Plain.small_want l1)).1; simp [Plain.sumL]; omega)
  have S40 := hid (show ∀ w, w ∈ Plain.wantL l1 ++ [8] → w ≤ 40 from fun w hw => by
    rcases List.mem_append.1 hw with h | h
    · exact (Plain.wantL_bd l1 w h).2
    · have : w = 8 := by simpa using h
      omega)
  generalize Plain.wantL l1 ++ [8] = ws at hR hlen SM S9 S40
  generalize (Plain.wantL l1).length = n0 at hrun hlen hwl hc
  have HRUN := hid hrun
  have HR := hid hR
  have HG := hid hg
  have HB := hid hb2
  clear hrun hR hg hb2 hown hb1
  go_wp2_with (first | (at_builtin; refine wpList_app _ _ 22 HRUN.out (by rfl) (by rfl) (by rfl) (by rfl) (by rfl) ?_) | fail)
  clear HRUN
  obtain ⟨n, hn⟩ : ∃ n, n = n0 + 1 := ⟨_, rfl⟩
  rw [← hn] at hlen hc ⊢
  have hn11 : 1 ≤ n ∧ n ≤ 11 := by omega
  clear hn hwl
  have HL := hid hlen
  clear hlen
  obtain ⟨na, nb⟩ := hn11
  go_wp2_with fail
  refine (picked_any a0 200 v1 v2 (by omega) (by omega) _).mono ?_
  rintro e wx ⟨rfl, hx⟩
  have hy0 := hx.symm; clear hx; subst hy0
  have ht : 0 ≤ a0 % 200 ∧ a0 % 200 < 200 := by omega
  generalize a0 % 200 = t at ht
  obtain ⟨t1, t2⟩ := ht
  go_wp2_with fail
  refine (picked_any a2 n z2 y2 (by omega) (by omega) _).mono ?_
  rintro e wx ⟨rfl, hx⟩
  have hy0 := hx.symm; clear hx; subst hy0
  obtain ⟨i, hii⟩ : ∃ i : Nat, i = (a2 % (n : Int)).toNat := ⟨_, rfl⟩
  have hi0 := Int.emod_nonneg a2 (show (n : Int) ≠ 0 by omega)
  have hi1 := Int.emod_lt_of_pos a2 (show (0 : Int) < (n : Int) by omega)
  have ei : a2 % (n : Int) = (i : Int) := by omega
  have hin : i < n := by omega
  have hiz : (i : Int) < (n : Int) := by omega
  rw [ei]
  clear hii hi0 hi1 ei
  go_wp2_with fail
  refine (shares_c (some ⟨g, 0, none⟩) n c ws t (Plain.splitE_small SM.out (by rw [HL.out]; omega) t1 (by omega)) W2 HL.out HR.out.wants (fun e => by cases e)).mono ?_
  rintro e W3 ⟨ga, rfl, ra, gea, ba⟩
  have RA := hid ra
  have HR3 := hid (HR.out.below ba HR.out.lt)
  have B3 := hid (HB.out.trans (ba.mono HB.out.size))
  clear ra gea ba HR HB
  have LA := hid (show (Plain.splitL t ws).length = n by rw [Plain.split_len, HL.out])
  have LV := hid (Plain.split_leaves SM.out.wm t1 i (by rw [HL.out]; exact hin))
  have BD := hid (Plain.split_bd SM.out.wm t1 i (by rw [HL.out]; exact hin))
  have LE := hid (Plain.split_le SM.out t1 i (by rw [HL.out]; exact hin))
  generalize Plain.splitL t ws = A at *
  have cA := RA.out.cell (i := i) (by rw [LA.out]; exact hin)
  have hx1 := BD.out.1
  have hx2 := LE.out
  generalize hxa : A.getD i 0 = xa at cA hx1 hx2 LV
  have HXA := hid hxa
  clear BD LE hxa
  have htn : ((i : Int) + 1).toNat = i + 1 := by omega
  have hw1 : IntKind.i64.wrap ((i : Int) + 1) = (i : Int) + 1 := by rw [IntKind.wrap_i64]; omega
  have hp1 : (0 : Int) ≤ (i : Int) + 1 := by omega
  have hp2 : (i : Int) + 1 ≤ (n : Int) := by omega
  have hp3 : (i : Int) ≤ (c : Int) := by omega
  have hp4 : (i : Int) ≤ (n : Int) := by omega
  have hc0 : ¬ c = 0 := by omega
  have hn0 : ¬ n = 0 := by omega
  by_cases hne : n = i + 1
  · by_cases hce : c = i + 1
    · skip
      have HAD := hid (show i + 1 < n → (⟨g, 0, none⟩ : Addr) = ⟨g, i + 1, none⟩ from fun h => absurd h (by omega))
      obtain ⟨p1', c1', U1, p2, c2, U2, r1, r2, w2, n2, b2, _⟩ := erase_c (c := c) (d := c - (i + 1)) ⟨g, 0, none⟩ HAD.out (HR3.out.drewN 1) HL.out hin (by omega)
      have hcT : (c = i + 1) = True := eq_true hce
      have hnT : (n = i + 1) = True := eq_true hne
      have HNE := hid hne
      clear hce hne
      have R1 := hid r1
      have R2 := hid r2
      have WR := hid w2
      have NR := hid n2
      have BR := hid b2
      clear r1 r2 w2 n2 b2 HAD
      go_wp2
      go_region_law (first
        | (refine step_appG _ _ 22 rfl 22 rfl (.slice none 0 0) (.slice (some ⟨g, 0, none⟩) i c) (by simp [Act.eval]) (by simp [Act.eval, Act.put]) R1.out (by rfl) ?_)
        | (refine step_appG _ _ 22 rfl 22 rfl (.slice p1' i c1') (.slice (some ⟨g, 0, none⟩) (n - (i + 1)) (c - (i + 1))) (by simp [Act.eval]) (by simp [Act.eval]) R2.out (by rfl) ?_))
      have RA4 := hid ((RA.out.drewN 1).below BR.out (RA.out.drewN 1).lt)
      have B4 := hid ((below_drewN B3.out 1).trans (BR.out.mono (below_drewN B3.out 1).size))
      have SE := hid (Plain.small_erase SM.out i)
      have LE := hid (Plain.erase_len i HL.out hin)
      have LEA := hid (Plain.erase_len i LA.out hin)
      clear R1 R2 cA RA HR3 BR B3 htn hw1 hp1 hp2 hp3 hc0
      generalize hm : n - 1 = m at *
      have hmn : m ≤ 11 := by omega
      have HM := hid hm
      clear hm
      have cA := RA4.out.cell (i := i) (by rw [LA.out]; exact hin)
      rw [HXA.out] at cA
      obtain ⟨T, hT⟩ : ∃ T, T = t - xa := ⟨_, rfl⟩
      have KS := shares_c p2 m c2 (ws.eraseIdx i) T (Plain.splitE_small SE.out (by rw [LE.out]; omega) (by omega) (by omega)) U2 LE.out WR.out NR.out
      rw [hT, LV.out] at KS
      clear hT T
      go_wp2_with fail
      refine KS.mono ?_
      clear KS
      rintro e W5 ⟨gb, rfl, rb, geb, bb⟩
      have RA5 := hid (RA4.out.below bb RA4.out.lt)
      have RB5 := hid rb
      have B5 := hid (B4.out.trans (bb.mono B4.out.size))
      clear rb geb bb RA4 B4 WR NR cA
      have hrow : RowI (W5.alloc (.cells #[.int .i64 2] 3)) W5.heap.size [2] :=
        ⟨#[.int .i64 2], Deep.blk_alloc_new _ _, by simp, fun i hi => by
          have : i = 0 := by simpa using hi
          subst this; rfl⟩
      have KS := shares_c (some ⟨W5.heap.size, 0, none⟩) 1 1 [2] 3 (by rfl) (W5.alloc (.cells #[.int .i64 2] 3)) rfl hrow.wants (fun e => by cases e)
      rw [Plain.split_32] at KS
      clear hrow
      go_wp2_with fail
      refine KS.mono ?_
      clear KS
      rintro e W6 ⟨go, he, ro, geo, bo⟩
      obtain ⟨k1, hk1⟩ : ∃ k1 : Nat, k1 = 1 := ⟨_, rfl⟩
      rw [← hk1] at he
      subst he
      have hk1z : (0 : Int) < (k1 : Int) := by omega
      have hk1n : 0 < k1 := by omega
      clear hk1
      have bel : Below W5.heap.size W5 W6 := ((Below.refl _ _).alloc (Nat.le_refl _) _).trans (bo.mono (by simp))
      have RA6 := hid (RA5.out.below bel RA5.out.lt)
      have RB6 := hid (RB5.out.below bel RB5.out.lt)
      have B6 := hid (B5.out.trans (bel.mono B5.out.size))
      have cO : W6.cell? ⟨go, 0, none⟩ = some (.int .i64 2) := ro.cell (i := 0) (by simp)
      have GO := hid ro.lt
      clear ro geo bo bel RA5 RB5 B5
      have HAD := hid (show i + 1 < n → (⟨ga, 0, none⟩ : Addr) = ⟨ga, i + 1, none⟩ from fun h => absurd h (by have := HNE.out; omega))
      obtain ⟨q1, d1, V1, q2, d2, V2, r1, r2, w2, n2, b2, b1⟩ := erase_c (c := n) (d := n - (i + 1)) ⟨ga, 0, none⟩ HAD.out (RA6.out.drewN 1) LA.out hin (by omega)
      rw [HM.out] at r2
      have hv1 : V1.cell? ⟨go, 0, none⟩ = some (.int .i64 2) := (b1.cell (p := ⟨go, 0, none⟩) GO.out).trans (by simpa using cO)
      have hv2 : V2.cell? ⟨go, 0, none⟩ = some (.int .i64 2) := (b2.cell (p := ⟨go, 0, none⟩) GO.out).trans (by simpa using cO)
      have R1 := hid r1
      have R2 := hid r2
      have RB7 := hid ((RB6.out.drewN 1).below b2 (RB6.out.drewN 1).lt)
      have B7 := hid ((below_drewN B6.out 1).trans (b2.mono (below_drewN B6.out 1).size))
      have KS := keep.same_any (.slice (some ⟨gb, 0, none⟩) m m) (.slice q2 m d2) (A.eraseIdx i) (A.eraseIdx i) (by rw [LEA.out, ← HM.out]; omega) V2 (by have := RB7.out.seg m; rwa [LEA.out] at this) (by have := (w2.seg d2).1; rwa [LEA.out] at this)
      have hd : decide (A.eraseIdx i = A.eraseIdx i) = true := by simp
      rw [hd] at KS
      clear r1 r2 w2 n2 b2 HAD hd b1
      have htn : ((i : Int) + 1).toNat = i + 1 := by omega
      have hw1 : IntKind.i64.wrap ((i : Int) + 1) = (i : Int) + 1 := by rw [IntKind.wrap_i64]; omega
      have hp1 : (0 : Int) ≤ (i : Int) + 1 := by omega
      have hp2 : (i : Int) + 1 ≤ (n : Int) := by omega
      go_wp2
      go_region_held3 (fun w' => w'.cell? ⟨go, 0, none⟩ = some (.int .i64 2)) (go_keep) (first
        | (refine step_appG _ _ 22 rfl 22 rfl (.slice none 0 0) (.slice (some ⟨ga, 0, none⟩) i n) (by simp [Act.eval]) (by simp [Act.eval]) R1.out (by rfl) ?_)
        | (refine step_appG _ _ 22 rfl 22 rfl (.slice q1 i d1) (.slice (some ⟨ga, 0, none⟩) (n - (i + 1)) (n - (i + 1))) (by simp [Act.eval]) (by simp [Act.eval]) R2.out (by rfl) ?_)
        | (go_at_call 10; refine KS.mono ?_; rintro e w' ⟨rfl, q, rfl⟩))
      all_goals
        go_wp2
        go_ret
        exact ⟨rfl, below_drewN B7.out _⟩
    · skip
      have HAD := hid (show i + 1 < n → (⟨g, i + 1, none⟩ : Addr) = ⟨g, i + 1, none⟩ from fun h => rfl)
      obtain ⟨p1', c1', U1, p2, c2, U2, r1, r2, w2, n2, b2, _⟩ := erase_c (c := c) (d := c - (i + 1)) ⟨g, i + 1, none⟩ HAD.out (HR3.out.drewN 1) HL.out hin (by omega)
      have hcF : ¬ c = i + 1 := hce
      have hnT : (n = i + 1) = True := eq_true hne
      have HNE := hid hne
      clear hce hne
      have R1 := hid r1
      have R2 := hid r2
      have WR := hid w2
      have NR := hid n2
      have BR := hid b2
      clear r1 r2 w2 n2 b2 HAD
      go_wp2
      go_region_law (first
        | (refine step_appG _ _ 22 rfl 22 rfl (.slice none 0 0) (.slice (some ⟨g, 0, none⟩) i c) (by simp [Act.eval]) (by simp [Act.eval, Act.put]) R1.out (by rfl) ?_)
        | (refine step_appG _ _ 22 rfl 22 rfl (.slice p1' i c1') (.slice (some ⟨g, i + 1, none⟩) (n - (i + 1)) (c - (i + 1))) (by simp [Act.eval]) (by simp [Act.eval]) R2.out (by rfl) ?_))
      have RA4 := hid ((RA.out.drewN 1).below BR.out (RA.out.drewN 1).lt)
      have B4 := hid ((below_drewN B3.out 1).trans (BR.out.mono (below_drewN B3.out 1).size))
      have SE := hid (Plain.small_erase SM.out i)
      have LE := hid (Plain.erase_len i HL.out hin)
      have LEA := hid (Plain.erase_len i LA.out hin)
      clear R1 R2 cA RA HR3 BR B3 htn hw1 hp1 hp2 hp3 hc0
      generalize hm : n - 1 = m at *
      have hmn : m ≤ 11 := by omega
      have HM := hid hm
      clear hm
      have cA := RA4.out.cell (i := i) (by rw [LA.out]; exact hin)
      rw [HXA.out] at cA
      obtain ⟨T, hT⟩ : ∃ T, T = t - xa := ⟨_, rfl⟩
      have KS := shares_c p2 m c2 (ws.eraseIdx i) T (Plain.splitE_small SE.out (by rw [LE.out]; omega) (by omega) (by omega)) U2 LE.out WR.out NR.out
      rw [hT, LV.out] at KS
      clear hT T
      go_wp2_with fail
      refine KS.mono ?_
      clear KS
      rintro e W5 ⟨gb, rfl, rb, geb, bb⟩
      have RA5 := hid (RA4.out.below bb RA4.out.lt)
      have RB5 := hid rb
      have B5 := hid (B4.out.trans (bb.mono B4.out.size))
      clear rb geb bb RA4 B4 WR NR cA
      have hrow : RowI (W5.alloc (.cells #[.int .i64 2] 3)) W5.heap.size [2] :=
        ⟨#[.int .i64 2], Deep.blk_alloc_new _ _, by simp, fun i hi => by
          have : i = 0 := by simpa using hi
          subst this; rfl⟩
      have KS := shares_c (some ⟨W5.heap.size, 0, none⟩) 1 1 [2] 3 (by rfl) (W5.alloc (.cells #[.int .i64 2] 3)) rfl hrow.wants (fun e => by cases e)
      rw [Plain.split_32] at KS
      clear hrow
      go_wp2_with fail
      refine KS.mono ?_
      clear KS
      rintro e W6 ⟨go, he, ro, geo, bo⟩
      obtain ⟨k1, hk1⟩ : ∃ k1 : Nat, k1 = 1 := ⟨_, rfl⟩
      rw [← hk1] at he
      subst he
      have hk1z : (0 : Int) < (k1 : Int) := by omega
      have hk1n : 0 < k1 := by omega
      clear hk1
      have bel : Below W5.heap.size W5 W6 := ((Below.refl _ _).alloc (Nat.le_refl _) _).trans (bo.mono (by simp))
      have RA6 := hid (RA5.out.below bel RA5.out.lt)
      have RB6 := hid (RB5.out.below bel RB5.out.lt)
      have B6 := hid (B5.out.trans (bel.mono B5.out.size))
      have cO : W6.cell? ⟨go, 0, none⟩ = some (.int .i64 2) := ro.cell (i := 0) (by simp)
      have GO := hid ro.lt
      clear ro geo bo bel RA5 RB5 B5
      have HAD := hid (show i + 1 < n → (⟨ga, 0, none⟩ : Addr) = ⟨ga, i + 1, none⟩ from fun h => absurd h (by have := HNE.out; omega))
      obtain ⟨q1, d1, V1, q2, d2, V2, r1, r2, w2, n2, b2, b1⟩ := erase_c (c := n) (d := n - (i + 1)) ⟨ga, 0, none⟩ HAD.out (RA6.out.drewN 1) LA.out hin (by omega)
      rw [HM.out] at r2
      have hv1 : V1.cell? ⟨go, 0, none⟩ = some (.int .i64 2) := (b1.cell (p := ⟨go, 0, none⟩) GO.out).trans (by simpa using cO)
      have hv2 : V2.cell? ⟨go, 0, none⟩ = some (.int .i64 2) := (b2.cell (p := ⟨go, 0, none⟩) GO.out).trans (by simpa using cO)
      have R1 := hid r1
      have R2 := hid r2
      have RB7 := hid ((RB6.out.drewN 1).below b2 (RB6.out.drewN 1).lt)
      have B7 := hid ((below_drewN B6.out 1).trans (b2.mono (below_drewN B6.out 1).size))
      have KS := keep.same_any (.slice (some ⟨gb, 0, none⟩) m m) (.slice q2 m d2) (A.eraseIdx i) (A.eraseIdx i) (by rw [LEA.out, ← HM.out]; omega) V2 (by have := RB7.out.seg m; rwa [LEA.out] at this) (by have := (w2.seg d2).1; rwa [LEA.out] at this)
      have hd : decide (A.eraseIdx i = A.eraseIdx i) = true := by simp
      rw [hd] at KS
      clear r1 r2 w2 n2 b2 HAD hd b1
      have htn : ((i : Int) + 1).toNat = i + 1 := by omega
      have hw1 : IntKind.i64.wrap ((i : Int) + 1) = (i : Int) + 1 := by rw [IntKind.wrap_i64]; omega
      have hp1 : (0 : Int) ≤ (i : Int) + 1 := by omega
      have hp2 : (i : Int) + 1 ≤ (n : Int) := by omega
      go_wp2
      go_region_held3 (fun w' => w'.cell? ⟨go, 0, none⟩ = some (.int .i64 2)) (go_keep) (first
        | (refine step_appG _ _ 22 rfl 22 rfl (.slice none 0 0) (.slice (some ⟨ga, 0, none⟩) i n) (by simp [Act.eval]) (by simp [Act.eval]) R1.out (by rfl) ?_)
        | (refine step_appG _ _ 22 rfl 22 rfl (.slice q1 i d1) (.slice (some ⟨ga, 0, none⟩) (n - (i + 1)) (n - (i + 1))) (by simp [Act.eval]) (by simp [Act.eval]) R2.out (by rfl) ?_)
        | (go_at_call 10; refine KS.mono ?_; rintro e w' ⟨rfl, q, rfl⟩))
      all_goals
        go_wp2
        go_ret
        exact ⟨rfl, below_drewN B7.out _⟩
  · have hce : ¬ c = i + 1 := by omega
    have HAD := hid (show i + 1 < n → (⟨g, i + 1, none⟩ : Addr) = ⟨g, i + 1, none⟩ from fun h => rfl)
    obtain ⟨p1', c1', U1, p2, c2, U2, r1, r2, w2, n2, b2, _⟩ := erase_c (c := c) (d := c - (i + 1)) ⟨g, i + 1, none⟩ HAD.out (HR3.out.drewN 1) HL.out hin (by omega)
    have hcF : ¬ c = i + 1 := hce
    have hnF : ¬ n = i + 1 := hne
    have HNE := hid hne
    clear hce hne
    have R1 := hid r1
    have R2 := hid r2
    have WR := hid w2
    have NR := hid n2
    have BR := hid b2
    clear r1 r2 w2 n2 b2 HAD
    go_wp2
    go_region_law (first
      | (refine step_appG _ _ 22 rfl 22 rfl (.slice none 0 0) (.slice (some ⟨g, 0, none⟩) i c) (by simp [Act.eval]) (by simp [Act.eval, Act.put]) R1.out (by rfl) ?_)
      | (refine step_appG _ _ 22 rfl 22 rfl (.slice p1' i c1') (.slice (some ⟨g, i + 1, none⟩) (n - (i + 1)) (c - (i + 1))) (by simp [Act.eval]) (by simp [Act.eval]) R2.out (by rfl) ?_))
    have RA4 := hid ((RA.out.drewN 1).below BR.out (RA.out.drewN 1).lt)
    have B4 := hid ((below_drewN B3.out 1).trans (BR.out.mono (below_drewN B3.out 1).size))
    have SE := hid (Plain.small_erase SM.out i)
    have LE := hid (Plain.erase_len i HL.out hin)
    have LEA := hid (Plain.erase_len i LA.out hin)
    clear R1 R2 cA RA HR3 BR B3 htn hw1 hp1 hp2 hp3 hc0
    generalize hm : n - 1 = m at *
    have hmn : m ≤ 11 := by omega
    have HM := hid hm
    clear hm
    have cA := RA4.out.cell (i := i) (by rw [LA.out]; exact hin)
    rw [HXA.out] at cA
    obtain ⟨T, hT⟩ : ∃ T, T = t - xa := ⟨_, rfl⟩
    have KS := shares_c p2 m c2 (ws.eraseIdx i) T (Plain.splitE_small SE.out (by rw [LE.out]; omega) (by omega) (by omega)) U2 LE.out WR.out NR.out
    rw [hT, LV.out] at KS
    clear hT T
    go_wp2_with fail
    refine KS.mono ?_
    clear KS
    rintro e W5 ⟨gb, rfl, rb, geb, bb⟩
    have RA5 := hid (RA4.out.below bb RA4.out.lt)
    have RB5 := hid rb
    have B5 := hid (B4.out.trans (bb.mono B4.out.size))
    clear rb geb bb RA4 B4 WR NR cA
    have hrow : RowI (W5.alloc (.cells #[.int .i64 2] 3)) W5.heap.size [2] :=
      ⟨#[.int .i64 2], Deep.blk_alloc_new _ _, by simp, fun i hi => by
        have : i = 0 := by simpa using hi
        subst this; rfl⟩
    have KS := shares_c (some ⟨W5.heap.size, 0, none⟩) 1 1 [2] 3 (by rfl) (W5.alloc (.cells #[.int .i64 2] 3)) rfl hrow.wants (fun e => by cases e)
    rw [Plain.split_32] at KS
    clear hrow
    go_wp2_with fail
    refine KS.mono ?_
    clear KS
    rintro e W6 ⟨go, he, ro, geo, bo⟩
    obtain ⟨k1, hk1⟩ : ∃ k1 : Nat, k1 = 1 := ⟨_, rfl⟩
    rw [← hk1] at he
    subst he
    have hk1z : (0 : Int) < (k1 : Int) := by omega
    have hk1n : 0 < k1 := by omega
    clear hk1
    have bel : Below W5.heap.size W5 W6 := ((Below.refl _ _).alloc (Nat.le_refl _) _).trans (bo.mono (by simp))
    have RA6 := hid (RA5.out.below bel RA5.out.lt)
    have RB6 := hid (RB5.out.below bel RB5.out.lt)
    have B6 := hid (B5.out.trans (bel.mono B5.out.size))
    have cO : W6.cell? ⟨go, 0, none⟩ = some (.int .i64 2) := ro.cell (i := 0) (by simp)
    have GO := hid ro.lt
    clear ro geo bo bel RA5 RB5 B5
    have HAD := hid (show i + 1 < n → (⟨ga, i + 1, none⟩ : Addr) = ⟨ga, i + 1, none⟩ from fun h => rfl)
    obtain ⟨q1, d1, V1, q2, d2, V2, r1, r2, w2, n2, b2, b1⟩ := erase_c (c := n) (d := n - (i + 1)) ⟨ga, i + 1, none⟩ HAD.out (RA6.out.drewN 1) LA.out hin (by omega)
    rw [HM.out] at r2
    have hv1 : V1.cell? ⟨go, 0, none⟩ = some (.int .i64 2) := (b1.cell (p := ⟨go, 0, none⟩) GO.out).trans (by simpa using cO)
    have hv2 : V2.cell? ⟨go, 0, none⟩ = some (.int .i64 2) := (b2.cell (p := ⟨go, 0, none⟩) GO.out).trans (by simpa using cO)
    have R1 := hid r1
    have R2 := hid r2
    have RB7 := hid ((RB6.out.drewN 1).below b2 (RB6.out.drewN 1).lt)
    have B7 := hid ((below_drewN B6.out 1).trans (b2.mono (below_drewN B6.out 1).size))
    have KS := keep.same_any (.slice (some ⟨gb, 0, none⟩) m m) (.slice q2 m d2) (A.eraseIdx i) (A.eraseIdx i) (by rw [LEA.out, ← HM.out]; omega) V2 (by have := RB7.out.seg m; rwa [LEA.out] at this) (by have := (w2.seg d2).1; rwa [LEA.out] at this)
    have hd : decide (A.eraseIdx i = A.eraseIdx i) = true := by simp
    rw [hd] at KS
    clear r1 r2 w2 n2 b2 HAD hd b1
    have htn : ((i : Int) + 1).toNat = i + 1 := by omega
    have hw1 : IntKind.i64.wrap ((i : Int) + 1) = (i : Int) + 1 := by rw [IntKind.wrap_i64]; omega
    have hp1 : (0 : Int) ≤ (i : Int) + 1 := by omega
    have hp2 : (i : Int) + 1 ≤ (n : Int) := by omega
    go_wp2
    go_region_held3 (fun w' => w'.cell? ⟨go, 0, none⟩ = some (.int .i64 2)) (go_keep) (first
      | (refine step_appG _ _ 22 rfl 22 rfl (.slice none 0 0) (.slice (some ⟨ga, 0, none⟩) i n) (by simp [Act.eval]) (by simp [Act.eval]) R1.out (by rfl) ?_)
      | (refine step_appG _ _ 22 rfl 22 rfl (.slice q1 i d1) (.slice (some ⟨ga, i + 1, none⟩) (n - (i + 1)) (n - (i + 1))) (by simp [Act.eval]) (by simp [Act.eval]) R2.out (by rfl) ?_)
      | (go_at_call 10; refine KS.mono ?_; rintro e w' ⟨rfl, q, rfl⟩))
    all_goals
      go_wp2
      go_ret
      exact ⟨rfl, below_drewN B7.out _⟩

set_option maxRecDepth 100000 in
theorem lifted (os : Os) (started : os.Started) (H : Type) (enc : TypeId × Value → H) :
    ReturnsInHanded {} Try.checked os 6 .any (Rows.shareLeavesSpec.pre6 enc Try.prog Try.f6 Rows.shareLeavesRow.domain false) (Rows.shareLeavesSpec.post enc Try.prog Try.f6 false true false false) := by
  refine returnsInHanded_of_change (C := Try.checked) own started (by kernel_rfl) Try.func6
    (ChangeSpec.witness6 (enc := enc) (C := Try.checked) false ⟨#[], #[.int .i64 0, .slice none 0 0, .int .i64 0], []⟩ 8 (by kernel_rfl) (by kernel_rfl) (by kernel_rfl) (by kernel_rfl)) ?_
  intro W base args ds gs before hval0 hW hcnd _
  have hval : ∀ (j : Nat) t v, Try.f6.params[j]? = some t → args[j]? = some v → Value.okWide Try.prog W .any base t v := hval0
  have hW' := hW
  obtain ⟨p, q, hA0, hV, rfl, hfz, hnd⟩ := hW
  have hA : DataW.TrodAll enc Try.prog W 0 (fun _ => true) true Try.f6.params.toList args.toList ds p := hA0
  rw [Try.params6] at hA hval
  obtain ⟨v0, vs0, d0, ds0, p0, q0, hargs, rfl, rfl, h0, r0⟩ := trodAll_cons hA
  obtain ⟨v1, vs1, d1, ds1, p1, q1, rfl, rfl, rfl, h1, r1⟩ := trodAll_cons r0
  obtain ⟨v2, vs2, d2, ds2, p2, q2, rfl, rfl, rfl, h2, r2⟩ := trodAll_cons r1
  obtain ⟨rfl, rfl, rfl⟩ := trodAll_nil r2
  obtain rfl : args = #[v0, v1, v2] := by cases args; simp_all
  obtain ⟨rfl, rfl⟩ := trodVars_none hV
  have k0 := h0
  have lt0 : ∀ x ∈ p0, x.block < W.heap.size := by obtain ⟨m, hm⟩ := k0; exact DataW.trod_lt m _ _ _ hm
  obtain ⟨a0, rfl, _, _, w0⟩ := open_int Try.underlying3 (hval 0 3 v0 rfl rfl) h0
  obtain ⟨a1, len1, cap1, rfl⟩ := okWide_slice Try.underlying22 (hval 1 22 v1 rfl rfl)
  have k1 := h1
  have lt1 : ∀ x ∈ p1, x.block < W.heap.size := by obtain ⟨m, hm⟩ := k1; exact DataW.trod_lt m _ _ _ hm
  obtain ⟨l1, hl1, hc1, hm1, hr1, y1, s1⟩ := ints_seg h1
  have k2 := h2
  have lt2 : ∀ x ∈ p2, x.block < W.heap.size := by obtain ⟨m, hm⟩ := k2; exact DataW.trod_lt m _ _ _ hm
  obtain ⟨a2, rfl, _, _, w2⟩ := open_int Try.underlying3 (hval 2 3 v2 rfl rfl) h2
  clear hA0 hval0
  refine (walk W a0 (bounds_i64 w0) _ l1 (by omega) hr1 s1 y1 a2 (bounds_i64 w2)).mono fun e W' ⟨he, bel⟩ => ?_
  subst he
  exact ⟨_, rfl, _, _, _, [], _, [], hW', trodAll_mk1 (shut_bool Try.underlying4 _), (trodAll_cons_mk (Below.trod laidOut (by kernel_rfl) (of_decide_eq_true (by kernel_rfl)) k0 bel lt0) (trodAll_cons_mk (Below.trod laidOut (by kernel_rfl) (of_decide_eq_true (by kernel_rfl)) k1 bel lt1) (trodAll_cons_mk (Below.trod laidOut (by kernel_rfl) (of_decide_eq_true (by kernel_rfl)) k2 bel lt2) trodAll_mk0))), rfl, bel.frame _, fun h => by cases h⟩

theorem over : Rows.shareLeavesRow.holds Try.pinned (OpenSpec.ofChange Rows.shareLeavesSpec) :=
  OpenClaim.holds_of_wide 6 Try.f6 rfl rfl rfl rfl rfl rfl rfl ⟨rfl, rfl, rfl, rfl, rfl⟩ rfl rfl rfl rfl rfl (by kernel_rfl) Try.func6 (by kernel_rfl)
    (of_decide_eq_true (by kernel_rfl)) (by unfold Func.isWrapper; first | (rw [if_pos (by decide +kernel)]; kernel_rfl) | (rw [if_neg (by decide +kernel)]; exact ⟨rfl, rfl⟩))
    (fun os started H enc _ => lifted os started H enc)

end shareLeaves

theorem shareLeaves_holds : Rows.ShareLeavesSaid := shareLeaves.over
#print axioms shareLeaves_holds
end Go.Proofs.Ytiddpkhmdjjmdah
