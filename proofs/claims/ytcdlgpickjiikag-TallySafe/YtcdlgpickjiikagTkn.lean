/-
  A contract of known.
-/
import Derived.Test.YtcdlgpickjiikagTbl
import Derived.Test.YtcdlgpickjiikagTmg
import Derived.Test.YtcdlgpickjiikagTd
import Derived.Test.YtcdlgpickjiikagPk
import Derived.Test.YtcdlgpickjiikagTki
import Derived.Deep.RegionWith
import Derived.Deep.RegionHeld3
import Derived.Deep.Cut
import Derived.Deep.CutRange
namespace Go.Proofs.Ytcdlgpickjiikag
open Go.RowKit Go.Sort

namespace Plain
theorem doE_first (f : Int) (h : 1 ≤ f ∧ f ≤ 50) : doE (blank 3) ⟨1, 0, 0, f⟩ = 0 := by
  have e : refE (blank 3) ⟨1, 0, 0, f⟩ = 0 := by
    unfold refE
    rw [if_pos (by decide), if_pos (.inl rfl), if_pos ⟨⟨by simp, by simp [blank]⟩, by simp, by simp only []; omega, by simp only []; omega⟩, if_neg (by simp)]
  unfold doE
  rw [if_pos e, if_neg]
  show ¬ 1048576 < 0 + f
  omega
theorem doV_first (f : Int) (h : 1 ≤ f ∧ f ≤ 50) : doV (blank 3) ⟨1, 0, 0, f⟩ = begin3 f := by
  unfold doV
  rw [if_pos (doE_first f h)]
  show (⟨[[0 + f, 0, 0], [0, 0, 0], [0, 0, 0]], [0, 0, 0]⟩ : Ta) = _
  rw [Int.zero_add]
  rfl
end Plain

set_option maxHeartbeats 2000000 in
set_option maxRecDepth 100000 in
theorem known_c (v : Value) (l : List Plain.De) (N : Nat) (hN : N ≤ 60) (fi : Int) (hf1 : -9223372036854775808 ≤ fi) (hf2 : fi ≤ 9223372036854775807) (w : World) (h : SegD w v l) (hr : ∀ j, j < l.length → InD (l.getD j default)) :
    Calls Try.prog 10 #[v, .int .i64 N, .int .i64 fi] w fun e w' => ∃ g VM VU, e = .returned (.tuple #[.slice (some ⟨g, 0, none⟩) 3 3, .bool true]) ∧ KI w w' g VM VU (Plain.knownT (1 + fi % 50) l (min l.length N)) := by
  have H := hid h
  have R := hid hr
  clear h hr
  go_enter Try.func10, Try.ntmps10
  go_wp2_with fail
  refine (blank_c 3 (by omega) (by omega) _).mono ?_
  rintro e w1 ⟨m0, u0, rfl, t0, b1⟩
  have T0 := hid t0
  have B1 := hid b1
  clear t0 b1
  have hfm : 0 ≤ fi % 50 ∧ fi % 50 < 50 := by omega
  go_wp2_with fail
  refine (picked_any fi 50 hf1 hf2 (by omega) (by omega) _).mono ?_
  rintro e w2 ⟨rfl, hw2⟩
  have hy0 := hw2.symm; clear hw2; subst hy0
  generalize hfp : fi % 50 = p at *
  have HFP := hid hfp
  clear hfp
  have K := do_any m0 u0 (Plain.blank 3) ⟨1, 0, 0, 1 + p⟩ w1 T0.out
  rw [Plain.doE_first _ (by omega), Plain.doV_first _ (by omega)] at K
  go_wp2_with fail
  refine K.mono ?_
  rintro e w3 ⟨m1, u1, rfl, ⟨t1, _, _, _⟩, b3⟩
  have T1 := hid t1
  have B3 := hid (B1.out.trans (b3.mono B1.out.size))
  obtain ⟨pm, nm, cm, pu, nu, cu, rfl, rfl⟩ := T1.out.forms
  clear t1 b3 K
  go_wp2
  obtain ⟨W, hW⟩ : ∃ W, W = w3.alloc (boxT (.slice pm nm cm) (.slice pu nu cu)) := ⟨_, rfl⟩
  have x0 := (box_cells w3 (.slice pm nm cm) (.slice pu nu cu)).1
  have x1 := (box_cells w3 (.slice pm nm cm) (.slice pu nu cu)).2
  have lt : w3.heap.size < W.heap.size := by rw [hW]; simp
  have gW : Below w3.heap.size w3 W := by rw [hW]; exact (Below.refl _ _).alloc (Nat.le_refl _) _
  rw [← hW] at x0 x1 ⊢
  clear hW
  have acc := hid (show Blk W.drew [] from Blk.nil _)
  have tb := hid (show Below w.heap.size w W.drew from (B3.out.trans (gW.mono B3.out.size)).drew)
  have tt := hid (show HasT W.drew (.slice pm nm cm) (.slice pu nu cu) (Plain.begin3 (1 + p)) from T1.out.grow gW.drew)
  clear gW
  go_cut [10] from 34 to 37 (fun s10 wx => ∃ g VM VU, s10 = .slice (some ⟨g, 0, none⟩) 3 3 ∧ KI w wx g VM VU (Plain.first3 (1 + p)))
  case first =>
    go_region_with (go_at_call 11; refine (blank_c 3 (by omega) (by omega) _).mono ?_; rintro e w' ⟨x, y, rfl, h, b⟩; have x0 := (b.cell (p := ⟨w3.heap.size, 0, none⟩) lt).trans x0; have x1 := (b.cell (p := ⟨w3.heap.size, 1, none⟩) lt).trans x1; have lt := Nat.lt_of_lt_of_le lt b.size; have acc := hid (Blk.cons acc.out b h); have tb := hid (tb.out.trans (b.mono tb.out.size)); have tt := hid (tt.out.grow b); clear b h)
    all_goals (try go_wp2_with fail)
    all_goals go_meet
    all_goals exact ⟨_, _, _, rfl, KI.start tb.out tt.out (acc.out (_, _) (.tail _ (.head _))) (acc.out (_, _) (.head _))⟩
  case rest =>
    obtain ⟨g, VM, VU, rfl, ki⟩ := hcut
    have I0 := hid ki
    have HI := hid (show 1 ≤ 1 + p ∧ 1 + p ≤ 50 by omega)
    clear ki x0 x1 lt acc tb tt
    obtain ⟨hlb, pv, cv, rfl, _⟩ := H.out
    generalize hll : l.length = ll at *
    have HLL := hid hll
    clear hll
    go_wp2
    go_loopw [11] (fun i wr => ∃ k VM VU, k ≤ ll ∧ k ≤ N ∧ i = .int .i64 (k : Nat) ∧ KI w wr g VM VU (Plain.knownT (1 + p) l k)) (fun i _ => min ll N - (intOf i).toNat)
    case atStart => exact ⟨0, VM, VU, Nat.zero_le _, Nat.zero_le _, rfl, I0.out⟩
    case round =>
      obtain ⟨k, VM, VU, hk1, hk2, rfl, ki⟩ := hrel
      have I := hid ki
      clear ki I0
      by_cases h1 : k < ll
      case neg =>
        have h1z : ¬ (k : Int) < (ll : Int) := by omega
        have HK := hid (show min ll N = k by omega)
        clear h1
        go_wp2
        go_ret2
        exact ⟨g, rfl, VM, VU, by rw [HLL.out, HK.out, HFP.out]; exact I.out⟩
      by_cases h2 : k < N
      case neg =>
        have h1z : (k : Int) < (ll : Int) := by omega
        have h2z : ¬ (k : Int) < (N : Int) := by omega
        have HK := hid (show min ll N = k by omega)
        clear h1 h2
        go_wp2
        go_ret2
        exact ⟨g, rfl, VM, VU, by rw [HLL.out, HK.out, HFP.out]; exact I.out⟩
      have h1z : (k : Int) < (ll : Int) := by omega
      have h2z : (k : Int) < (N : Int) := by omega
      have INV := hid (Plain.inv_known (1 + p) HI.out l k (by omega))
      have STEP := hid (show Plain.knownT (1 + p) l (k + 1) = Plain.stepA (Plain.knownT (1 + p) l k) (l.getD k default) from rfl)
      generalize Plain.knownT (1 + p) l k = T at *
      obtain ⟨_, pv2, cv2, epv, hpv⟩ := H.out
      (try rw [HLL.out] at epv hpv)
      simp only [Value.slice.injEq, true_and] at epv
      obtain ⟨rfl, rfl⟩ := epv
      obtain ⟨lb, lo, rfl, hlb2, hcd⟩ := hpv (by omega)
      obtain ⟨a0, a1, a2, a3⟩ := (hcd k h1).below I.out.bel hlb2
      have RA := hid (R.out k h1)
      clear hpv hcd
      generalize ha : l.getD k default = a at *
      clear ha
      have aw1 := RA.out.w
      have at1 := RA.out.t
      have ac1 := RA.out.c
      have ak1 := RA.out.k
      obtain ⟨wi, hwi⟩ : ∃ wi : Nat, wi = Plain.wA a := ⟨_, rfl⟩
      obtain ⟨ti, hti⟩ : ∃ ti : Nat, ti = Plain.toA a := ⟨_, rfl⟩
      obtain ⟨qi, hqi⟩ : ∃ qi : Nat, qi = (a.to % 2).toNat := ⟨_, rfl⟩
      obtain ⟨cq, hcq⟩ : ∃ cq : Int, cq = a.count % 9 := ⟨_, rfl⟩
      have wi3 : wi < 3 := hwi ▸ Plain.wA_lt a
      have ti3 : ti < 3 := hti ▸ Plain.toA_lt a
      have cq1 : 0 ≤ cq ∧ cq < 9 := by omega
      have EW := hid (show a.who % 3 = (wi : Int) by rw [hwi]; unfold Plain.wA; omega)
      have EQ := hid (show a.to % 2 = (qi : Int) ∧ qi < 2 by rw [hqi]; omega)
      have ET := hid (show ((wi : Int) + 1 + (qi : Int)).tmod 3 = (ti : Int) by
        rw [hti]; unfold Plain.toA; rw [← hwi, ← hqi, Int.tmod_eq_emod_of_nonneg (by omega)]; omega)
      have EC := hid (show a.count % 9 = cq from hcq.symm)
      have kd1 : 0 ≤ a.kind % 5 ∧ a.kind % 5 < 5 := by omega
      have hq2 : qi < 2 := EQ.out.2
      have HWI := hid hwi
      have HTI := hid hti
      have HCT := hid (show Plain.ctA a = 1 + cq by unfold Plain.ctA; rw [hcq])
      clear hwi hti hqi hcq
      go_wp2_with fail
      refine (picked_any a.who 3 aw1.1 aw1.2 (by omega) (by omega) _).mono ?_
      rw [EW.out]
      rintro e w4 ⟨rfl, rfl⟩
      go_wp2_with fail
      refine (picked_any a.to 2 at1.1 at1.2 (by omega) (by omega) _).mono ?_
      rw [EQ.out.1]
      rintro e w4 ⟨rfl, rfl⟩
      have et := ET.out
      go_wp2_with fail
      refine (picked_any a.count 9 ac1.1 ac1.2 (by omega) (by omega) _).mono ?_
      rw [EC.out]
      rintro e w4 ⟨rfl, rfl⟩
      clear et
      go_wp2_with fail
      refine (picked_any a.kind 5 ak1.1 ak1.2 (by omega) (by omega) _).mono ?_
      rintro e w4 ⟨rfl, rfl⟩
      have HKD := hid (show Plain.kdA a = a.kind % 5 from rfl)
      generalize hkd : a.kind % 5 = kd at HKD kd1 ⊢
      clear hkd
      have IW := hid (I.out.step ((Below.refl _ _).alloc (Nat.le_refl _) (.cells #[.int .i64 a.kind, .int .i64 a.who, .int .i64 a.to, .int .i64 a.count] 48)))
      have w3z : (wi : Int) < 3 := by omega
      have t3z : (ti : Int) < 3 := by omega
      clear aw1 at1 ac1 ak1 a0 a1 a2 a3 hlb2
      by_cases hk3 : 3 ≤ kd
      · have NS := hid (show Plain.stepA T a = Plain.upd T wi (Plain.mergeT (T wi) (T ti)) by unfold Plain.stepA; rw [if_pos (by rw [HKD.out]; exact hk3), ← HWI.out, ← HTI.out])
        have k0 : (kd == 0) = false := beq_eq_false_iff_ne.2 (by omega)
        have k1 : (kd == 1) = false := beq_eq_false_iff_ne.2 (by omega)
        have k2 : (kd == 2) = false := beq_eq_false_iff_ne.2 (by omega)
        go_wp2
        obtain ⟨W, hW⟩ : ∃ W, W = (wr.alloc (.cells #[.int .i64 a.kind, .int .i64 a.who, .int .i64 a.to, .int .i64 a.count] 48)).alloc (boxD ⟨3, wi, 0, 1 + cq⟩) := ⟨_, rfl⟩
        have IX := hid (IW.out.step (w' := W) (by rw [hW]; exact (Below.refl _ _).alloc (Nat.le_refl _) _))
        rw [← hW]
        clear hW IW
        have c0 := IX.out.tri.c0 wi wi3
        have c1 := IX.out.tri.c1 wi wi3
        have c2 := IX.out.tri.c0 ti ti3
        have c3 := IX.out.tri.c1 ti ti3
        have glt := IX.out.tri.lt
        have ne1 : ¬ W.heap.size = g := by omega
        have bA := hid (show Below W.heap.size W W.drew from (Below.refl _ _).drew)
        have bB := hid (show Below W.heap.size W (W.alloc (.cells #[.slice none 0 0, .slice none 0 0] 25)).drew from ((Below.refl _ _).alloc (Nat.le_refl _) _).drew)
        have SW := hid (INV.out.sq wi wi3)
        have SO := hid (INV.out.sq ti ti3)
        have K := fun X (b : Below W.heap.size W X) => merge_ok (VM wi) (VU wi) (VM ti) (VU ti) (T wi) (T ti) 3 X ((IX.out.has wi wi3).grow b).has ((IX.out.has ti ti3).grow b).has SW.out SO.out
        go_cut [17, 18] from 38 to 140 (fun sa sb wx => ∃ mb x y, sa = .pointer (some ⟨mb, 0, none⟩) ∧ sb = .int .i64 0 ∧ Res wx mb x y ∧ HasP (W.heap.size ≤ ·) wx x y (Plain.mergeT (T wi) (T ti)) ∧ Below W.heap.size W wx)
        case first =>
          go_region_held3 (fun w' => w'.cell? ⟨g, wi * 2, none⟩ = some (VM wi) ∧ w'.cell? ⟨g, wi * 2 + 1, none⟩ = some (VU wi) ∧ w'.cell? ⟨g, ti * 2, none⟩ = some (VM ti) ∧ w'.cell? ⟨g, ti * 2 + 1, none⟩ = some (VU ti)) (go_keep)
            ((go_at_call 7; first
            | (refine (K _ bA.out).mono ?_; rintro e w' ⟨x, y, rfl, hp, b⟩; have HP := hid hp; have BB := hid (bA.out.trans b); obtain ⟨qm, rm, dm, qu, ru, du, rfl, rfl⟩ := hp.has.forms; have IC := hid (IX.out.step BB.out); have f0 := IC.out.tri.c0 wi wi3; have f1 := IC.out.tri.c1 wi wi3; have f2 := IC.out.tri.c0 ti ti3; have f3 := IC.out.tri.c1 ti ti3; have ne2 : ¬ w'.heap.size = g := (by have := IC.out.tri.lt; omega); clear hp b)
            | (refine (K _ bB.out).mono ?_; rintro e w' ⟨x, y, rfl, hp, b⟩; have HP := hid hp; have BB := hid (bB.out.trans (b.mono bB.out.size)); obtain ⟨qm, rm, dm, qu, ru, du, rfl, rfl⟩ := hp.has.forms; have IC := hid (IX.out.step BB.out); have f0 := IC.out.tri.c0 wi wi3; have f1 := IC.out.tri.c1 wi wi3; have f2 := IC.out.tri.c0 ti ti3; have f3 := IC.out.tri.c1 ti ti3; have ne2 : ¬ w'.heap.size = g := (by have := IC.out.tri.lt; omega); have RZ := hid (show Res w' W.heap.size (.slice none 0 0) (.slice none 0 0) from (b.block _ (by simp)).trans (Deep.blk_alloc_new W _)); have z0 := RZ.out.c0; have z1 := RZ.out.c1; have z2 := RZ.out.frozen 0; have z3 := RZ.out.frozen 1; have z4 := RZ.out.lt; clear hp b)))
          all_goals (try go_wp2_with fail)
          all_goals go_meet
          all_goals first
            | exact ⟨_, _, _, rfl, rfl, Deep.blk_alloc_new _ _, HP.out.grow ((Below.refl _ _).alloc (Nat.le_refl _) _), BB.out.alloc BB.out.size _⟩
            | exact ⟨_, _, _, rfl, rfl, RZ.out.set _ _, ((HP.out.apart (fun b hb => by simp at hb; omega)).apart (fun b hb => by simp at hb; omega)).mono (fun b hb => by simp at hb; omega), below_res BB.out (Nat.le_refl _)⟩
        case rest =>
          obtain ⟨mb, x, y, rfl, rfl, hres, hhas, hbel⟩ := hcut
          have IC := hid (IX.out.step hbel)
          have HH := hid (hhas.mono (fun b hb => show b ≠ g by have : W.heap.size ≤ b := hb; omega))
          obtain ⟨qm, rm, dm, qu, ru, du, rfl, rfl⟩ := hhas.has.forms
          have z0 := hres.c0
          have z1 := hres.c1
          have e0 := IC.out.tri.c0 wi wi3
          have e1 := IC.out.tri.c1 wi wi3
          have e2 := IC.out.tri.frozen (wi * 2)
          have e3 := IC.out.tri.frozen (wi * 2 + 1)
          have e4 := IC.out.tri.lt
          have NX := hid (IC.out.set wi wi3 _ _ _ HH.out)
          clear c0 c1 c2 c3 glt K hres hhas hbel
          go_wp2
          go_roundw
          case rel => exact ⟨k + 1, _, _, by omega, by omega, by go_num, by rw [STEP.out, NS.out]; exact NX.out⟩
          case measure => simp [intOf]; omega
      · have hcase : kd = 0 ∨ kd = 1 ∨ kd = 2 := by omega
        rcases hcase with rfl | rfl | rfl
        case inl =>
          have HD := hid (show Plain.deedA a = ⟨2, wi, (ti : Nat), 1 + cq⟩ by unfold Plain.deedA; rw [HKD.out, HCT.out, ← HWI.out, ← HTI.out]; first | rw [if_pos rfl] | rw [if_neg (by decide)])
          skip
          go_wp2
          obtain ⟨W, hW⟩ : ∃ W, W = (wr.alloc (.cells #[.int .i64 a.kind, .int .i64 a.who, .int .i64 a.to, .int .i64 a.count] 48)).alloc (boxD ⟨2, wi, (ti : Nat), 1 + cq⟩) := ⟨_, rfl⟩
          have IX := hid (IW.out.step (w' := W) (by rw [hW]; exact (Below.refl _ _).alloc (Nat.le_refl _) _))
          obtain ⟨y0, y1, y2, y3⟩ : CellD W (wr.heap.size + 1) 0 ⟨2, wi, (ti : Nat), 1 + cq⟩ := by rw [hW]; have := box_cellD (wr.alloc (.cells #[.int .i64 a.kind, .int .i64 a.who, .int .i64 a.to, .int .i64 a.count] 48)) ⟨2, wi, (ti : Nat), 1 + cq⟩; simpa using this
          simp only [Nat.zero_add] at y1 y2 y3
          have dlt : wr.heap.size + 1 < W.heap.size := by rw [hW]; simp
          rw [← hW]
          clear hW IW
          have c0 := IX.out.tri.c0 wi wi3
          have c1 := IX.out.tri.c1 wi wi3
          have glt := IX.out.tri.lt
          have ne1 : ¬ W.heap.size = g := by omega
          have ne4 : ¬ W.heap.size = wr.heap.size + 1 := by omega
          have bA := hid (show Below W.heap.size W W.drew from (Below.refl _ _).drew)
          have bB := hid (show Below W.heap.size W (W.alloc (.cells #[.slice none 0 0, .slice none 0 0] 25)).drew from ((Below.refl _ _).alloc (Nat.le_refl _) _).drew)
          have SW := hid (INV.out.sq wi wi3)
          have HDE := hid (Plain.inv_doE INV.out (by omega) a)
          rw [HD.out, HCT.out, ← HWI.out] at HDE
          have NSL := hid (fun h : Plain.leftT (T wi) wi < 1 + cq => show Plain.stepA T a = T by unfold Plain.stepA; rw [if_neg (by rw [HKD.out]; omega), ← HWI.out, HCT.out, if_pos h])
          have NSO := hid (fun h : ¬ Plain.leftT (T wi) wi < 1 + cq => show Plain.stepA T a = Plain.upd T wi (Plain.doT (T wi) ⟨2, wi, (ti : Nat), 1 + cq⟩) by unfold Plain.stepA; rw [if_neg (by rw [HKD.out]; omega), ← HWI.out, HCT.out, if_neg h, HD.out])
          have K := fun X (b : Below W.heap.size W X) => do_any (VM wi) (VU wi) (T wi) ⟨2, wi, (ti : Nat), 1 + cq⟩ X ((IX.out.has wi wi3).grow b).has
          generalize hE : Plain.doE (T wi) ⟨2, wi, (ti : Nat), 1 + cq⟩ = E at *
          generalize hV : Plain.doV (T wi) ⟨2, wi, (ti : Nat), 1 + cq⟩ = V at *
          have HV := hid hV
          have HEE := hid hE
          clear hE hV
          go_cut [19, 20] from 38 to 140 (fun sa sb wx => ∃ mb x y, sa = .pointer (some ⟨mb, 0, none⟩) ∧ sb = .int .i64 (E : Nat) ∧ Res wx mb x y ∧ HasP (W.heap.size ≤ ·) wx x y (V) ∧ Below W.heap.size W wx)
          case first =>
            go_region_held3 (fun w' => w'.cell? ⟨g, wi * 2, none⟩ = some (VM wi) ∧ w'.cell? ⟨g, wi * 2 + 1, none⟩ = some (VU wi) ∧ w'.cell? ⟨wr.heap.size + 1, 0, none⟩ = some (.int .i64 2) ∧ w'.cell? ⟨wr.heap.size + 1, 1, none⟩ = some (.int .i64 (wi : Nat)) ∧ w'.cell? ⟨wr.heap.size + 1, 2, none⟩ = some (.int .i64 (ti : Nat)) ∧ w'.cell? ⟨wr.heap.size + 1, 3, none⟩ = some (.int .i64 (1 + cq))) (go_keep)
              ((go_at_call 16; first
              | (refine (K _ bA.out).mono ?_; rintro e w' ⟨x, y, rfl, hp, b⟩; have HP := hid hp; have BB := hid (bA.out.trans b); obtain ⟨qm, rm, dm, qu, ru, du, rfl, rfl⟩ := hp.has.forms; have IC := hid (IX.out.step BB.out); have f0 := IC.out.tri.c0 wi wi3; have f1 := IC.out.tri.c1 wi wi3; have f4 := (BB.out.cell (p := ⟨wr.heap.size + 1, 0, none⟩) dlt).trans y0; have f5 := (BB.out.cell (p := ⟨wr.heap.size + 1, 1, none⟩) dlt).trans y1; have f6 := (BB.out.cell (p := ⟨wr.heap.size + 1, 2, none⟩) dlt).trans y2; have f7 := (BB.out.cell (p := ⟨wr.heap.size + 1, 3, none⟩) dlt).trans y3; have ne3 : ¬ w'.heap.size = wr.heap.size + 1 := (by have := BB.out.size; omega); have ne2 : ¬ w'.heap.size = g := (by have := IC.out.tri.lt; omega); clear hp b)
              | (refine (K _ bB.out).mono ?_; rintro e w' ⟨x, y, rfl, hp, b⟩; have HP := hid hp; have BB := hid (bB.out.trans (b.mono bB.out.size)); obtain ⟨qm, rm, dm, qu, ru, du, rfl, rfl⟩ := hp.has.forms; have IC := hid (IX.out.step BB.out); have f0 := IC.out.tri.c0 wi wi3; have f1 := IC.out.tri.c1 wi wi3; have f4 := (BB.out.cell (p := ⟨wr.heap.size + 1, 0, none⟩) dlt).trans y0; have f5 := (BB.out.cell (p := ⟨wr.heap.size + 1, 1, none⟩) dlt).trans y1; have f6 := (BB.out.cell (p := ⟨wr.heap.size + 1, 2, none⟩) dlt).trans y2; have f7 := (BB.out.cell (p := ⟨wr.heap.size + 1, 3, none⟩) dlt).trans y3; have ne3 : ¬ w'.heap.size = wr.heap.size + 1 := (by have := BB.out.size; omega); have ne2 : ¬ w'.heap.size = g := (by have := IC.out.tri.lt; omega); have RZ := hid (show Res w' W.heap.size (.slice none 0 0) (.slice none 0 0) from (b.block _ (by simp)).trans (Deep.blk_alloc_new W _)); have z0 := RZ.out.c0; have z1 := RZ.out.c1; have z2 := RZ.out.frozen 0; have z3 := RZ.out.frozen 1; have z4 := RZ.out.lt; clear hp b)))
            all_goals (try go_wp2_with fail)
            all_goals go_meet
            all_goals first
              | exact ⟨_, _, _, rfl, rfl, Deep.blk_alloc_new _ _, HP.out.grow ((Below.refl _ _).alloc (Nat.le_refl _) _), BB.out.alloc BB.out.size _⟩
              | exact ⟨_, _, _, rfl, rfl, RZ.out.set _ _, ((HP.out.apart (fun b hb => by simp at hb; omega)).apart (fun b hb => by simp at hb; omega)).mono (fun b hb => by simp at hb; omega), below_res BB.out (Nat.le_refl _)⟩
          case rest =>
            obtain ⟨mb, x, y, rfl, rfl, hres, hhas, hbel⟩ := hcut
            have IC := hid (IX.out.step hbel)
            have HH := hid (hhas.mono (fun b hb => show b ≠ g by have : W.heap.size ≤ b := hb; omega))
            have RS := hid hres
            obtain ⟨qm, rm, dm, qu, ru, du, rfl, rfl⟩ := hhas.has.forms
            have e0 := IC.out.tri.c0 wi wi3
            have e1 := IC.out.tri.c1 wi wi3
            have e4 := IC.out.tri.lt
            have K2 := Left_c (VM wi) (VU wi) (T wi) (wi : Int) wc (IC.out.has wi wi3).has
            rw [Plain.leftE_sq SW.out (by omega) w3z] at K2
            have LV : Plain.leftV (T wi) (wi : Int) = Plain.leftT (T wi) wi := by unfold Plain.leftV; rw [if_pos (Plain.leftE_sq SW.out (by omega) w3z), Int.toNat_natCast]
            rw [LV] at K2
            clear c0 c1 glt K hres hhas hbel y0 y1 y2 y3 dlt ne1 ne4 LV
            by_cases hl : Plain.leftT (T wi) wi < 1 + cq
            · have hE9 : E = 9 := by rw [HDE.out, if_pos hl]
              have NS := hid (NSL.out hl)
              subst hE9
              clear NSL NSO HDE
              generalize Plain.leftT (T wi) wi = z at *
              have b0 : decide (1 + cq ≤ z) = false := by rw [decide_eq_false_iff_not]; omega
              go_wp2_with fail
              refine K2.mono ?_
              rintro e w5 ⟨rfl, b5⟩
              have I5 := hid (IC.out.step b5)
              clear b5 K2 e0 e1 e4
              go_wp2
              go_roundw
              case rel => exact ⟨k + 1, _, _, by omega, by omega, by go_num, by rw [STEP.out, NS.out]; exact I5.out⟩
              case measure => simp [intOf]; omega
            · have hE0 : E = 0 := by rw [HDE.out, if_neg hl]
              have NS := hid (NSO.out hl)
              have HV2 := hid (show V = Plain.doT (T wi) ⟨2, wi, (ti : Nat), 1 + cq⟩ by rw [← HV.out]; unfold Plain.doV; rw [if_pos (HEE.out.trans hE0)])
              subst hE0
              clear NSL NSO HDE
              generalize Plain.leftT (T wi) wi = z at *
              have b0 : decide (1 + cq ≤ z) = true := by rw [decide_eq_true_eq]; omega
              go_wp2_with fail
              refine K2.mono ?_
              rintro e w5 ⟨rfl, b5⟩
              have I5 := hid (IC.out.step b5)
              have R5 := hid (RS.out.below b5 RS.out.lt)
              have H5 := hid (HH.out.grow b5)
              clear b5 K2 e0 e1 e4
              have z0 := R5.out.c0
              have z1 := R5.out.c1
              have e0 := I5.out.tri.c0 wi wi3
              have e1 := I5.out.tri.c1 wi wi3
              have e2 := I5.out.tri.frozen (wi * 2)
              have e3 := I5.out.tri.frozen (wi * 2 + 1)
              have e4 := I5.out.tri.lt
              have NX := hid (I5.out.set wi wi3 _ _ _ H5.out)
              go_wp2
              go_roundw
              case rel => exact ⟨k + 1, _, _, by omega, by omega, by go_num, by rw [STEP.out, NS.out, ← HV2.out]; exact NX.out⟩
              case measure => simp [intOf]; omega
        case inr.inl =>
          have HD := hid (show Plain.deedA a = ⟨3, wi, 0, 1 + cq⟩ by unfold Plain.deedA; rw [HKD.out, HCT.out, ← HWI.out, ← HTI.out]; first | rw [if_pos rfl] | rw [if_neg (by decide)])
          skip
          go_wp2
          obtain ⟨W, hW⟩ : ∃ W, W = (wr.alloc (.cells #[.int .i64 a.kind, .int .i64 a.who, .int .i64 a.to, .int .i64 a.count] 48)).alloc (boxD ⟨3, wi, 0, 1 + cq⟩) := ⟨_, rfl⟩
          have IX := hid (IW.out.step (w' := W) (by rw [hW]; exact (Below.refl _ _).alloc (Nat.le_refl _) _))
          obtain ⟨y0, y1, y2, y3⟩ : CellD W (wr.heap.size + 1) 0 ⟨3, wi, 0, 1 + cq⟩ := by rw [hW]; have := box_cellD (wr.alloc (.cells #[.int .i64 a.kind, .int .i64 a.who, .int .i64 a.to, .int .i64 a.count] 48)) ⟨3, wi, 0, 1 + cq⟩; simpa using this
          simp only [Nat.zero_add] at y1 y2 y3
          have dlt : wr.heap.size + 1 < W.heap.size := by rw [hW]; simp
          rw [← hW]
          clear hW IW
          have c0 := IX.out.tri.c0 wi wi3
          have c1 := IX.out.tri.c1 wi wi3
          have glt := IX.out.tri.lt
          have ne1 : ¬ W.heap.size = g := by omega
          have ne4 : ¬ W.heap.size = wr.heap.size + 1 := by omega
          have bA := hid (show Below W.heap.size W W.drew from (Below.refl _ _).drew)
          have bB := hid (show Below W.heap.size W (W.alloc (.cells #[.slice none 0 0, .slice none 0 0] 25)).drew from ((Below.refl _ _).alloc (Nat.le_refl _) _).drew)
          have SW := hid (INV.out.sq wi wi3)
          have HDE := hid (Plain.inv_doE INV.out (by omega) a)
          rw [HD.out, HCT.out, ← HWI.out] at HDE
          have NSL := hid (fun h : Plain.leftT (T wi) wi < 1 + cq => show Plain.stepA T a = T by unfold Plain.stepA; rw [if_neg (by rw [HKD.out]; omega), ← HWI.out, HCT.out, if_pos h])
          have NSO := hid (fun h : ¬ Plain.leftT (T wi) wi < 1 + cq => show Plain.stepA T a = Plain.upd T wi (Plain.doT (T wi) ⟨3, wi, 0, 1 + cq⟩) by unfold Plain.stepA; rw [if_neg (by rw [HKD.out]; omega), ← HWI.out, HCT.out, if_neg h, HD.out])
          have K := fun X (b : Below W.heap.size W X) => do_any (VM wi) (VU wi) (T wi) ⟨3, wi, 0, 1 + cq⟩ X ((IX.out.has wi wi3).grow b).has
          generalize hE : Plain.doE (T wi) ⟨3, wi, 0, 1 + cq⟩ = E at *
          generalize hV : Plain.doV (T wi) ⟨3, wi, 0, 1 + cq⟩ = V at *
          have HV := hid hV
          have HEE := hid hE
          clear hE hV
          go_cut [19, 20] from 38 to 140 (fun sa sb wx => ∃ mb x y, sa = .pointer (some ⟨mb, 0, none⟩) ∧ sb = .int .i64 (E : Nat) ∧ Res wx mb x y ∧ HasP (W.heap.size ≤ ·) wx x y (V) ∧ Below W.heap.size W wx)
          case first =>
            go_region_held3 (fun w' => w'.cell? ⟨g, wi * 2, none⟩ = some (VM wi) ∧ w'.cell? ⟨g, wi * 2 + 1, none⟩ = some (VU wi) ∧ w'.cell? ⟨wr.heap.size + 1, 0, none⟩ = some (.int .i64 3) ∧ w'.cell? ⟨wr.heap.size + 1, 1, none⟩ = some (.int .i64 (wi : Nat)) ∧ w'.cell? ⟨wr.heap.size + 1, 2, none⟩ = some (.int .i64 0) ∧ w'.cell? ⟨wr.heap.size + 1, 3, none⟩ = some (.int .i64 (1 + cq))) (go_keep)
              ((go_at_call 16; first
              | (refine (K _ bA.out).mono ?_; rintro e w' ⟨x, y, rfl, hp, b⟩; have HP := hid hp; have BB := hid (bA.out.trans b); obtain ⟨qm, rm, dm, qu, ru, du, rfl, rfl⟩ := hp.has.forms; have IC := hid (IX.out.step BB.out); have f0 := IC.out.tri.c0 wi wi3; have f1 := IC.out.tri.c1 wi wi3; have f4 := (BB.out.cell (p := ⟨wr.heap.size + 1, 0, none⟩) dlt).trans y0; have f5 := (BB.out.cell (p := ⟨wr.heap.size + 1, 1, none⟩) dlt).trans y1; have f6 := (BB.out.cell (p := ⟨wr.heap.size + 1, 2, none⟩) dlt).trans y2; have f7 := (BB.out.cell (p := ⟨wr.heap.size + 1, 3, none⟩) dlt).trans y3; have ne3 : ¬ w'.heap.size = wr.heap.size + 1 := (by have := BB.out.size; omega); have ne2 : ¬ w'.heap.size = g := (by have := IC.out.tri.lt; omega); clear hp b)
              | (refine (K _ bB.out).mono ?_; rintro e w' ⟨x, y, rfl, hp, b⟩; have HP := hid hp; have BB := hid (bB.out.trans (b.mono bB.out.size)); obtain ⟨qm, rm, dm, qu, ru, du, rfl, rfl⟩ := hp.has.forms; have IC := hid (IX.out.step BB.out); have f0 := IC.out.tri.c0 wi wi3; have f1 := IC.out.tri.c1 wi wi3; have f4 := (BB.out.cell (p := ⟨wr.heap.size + 1, 0, none⟩) dlt).trans y0; have f5 := (BB.out.cell (p := ⟨wr.heap.size + 1, 1, none⟩) dlt).trans y1; have f6 := (BB.out.cell (p := ⟨wr.heap.size + 1, 2, none⟩) dlt).trans y2; have f7 := (BB.out.cell (p := ⟨wr.heap.size + 1, 3, none⟩) dlt).trans y3; have ne3 : ¬ w'.heap.size = wr.heap.size + 1 := (by have := BB.out.size; omega); have ne2 : ¬ w'.heap.size = g := (by have := IC.out.tri.lt; omega); have RZ := hid (show Res w' W.heap.size (.slice none 0 0) (.slice none 0 0) from (b.block _ (by simp)).trans (Deep.blk_alloc_new W _)); have z0 := RZ.out.c0; have z1 := RZ.out.c1; have z2 := RZ.out.frozen 0; have z3 := RZ.out.frozen 1; have z4 := RZ.out.lt; clear hp b)))
            all_goals (try go_wp2_with fail)
            all_goals go_meet
            all_goals first
              | exact ⟨_, _, _, rfl, rfl, Deep.blk_alloc_new _ _, HP.out.grow ((Below.refl _ _).alloc (Nat.le_refl _) _), BB.out.alloc BB.out.size _⟩
              | exact ⟨_, _, _, rfl, rfl, RZ.out.set _ _, ((HP.out.apart (fun b hb => by simp at hb; omega)).apart (fun b hb => by simp at hb; omega)).mono (fun b hb => by simp at hb; omega), below_res BB.out (Nat.le_refl _)⟩
          case rest =>
            obtain ⟨mb, x, y, rfl, rfl, hres, hhas, hbel⟩ := hcut
            have IC := hid (IX.out.step hbel)
            have HH := hid (hhas.mono (fun b hb => show b ≠ g by have : W.heap.size ≤ b := hb; omega))
            have RS := hid hres
            obtain ⟨qm, rm, dm, qu, ru, du, rfl, rfl⟩ := hhas.has.forms
            have e0 := IC.out.tri.c0 wi wi3
            have e1 := IC.out.tri.c1 wi wi3
            have e4 := IC.out.tri.lt
            have K2 := Left_c (VM wi) (VU wi) (T wi) (wi : Int) wc (IC.out.has wi wi3).has
            rw [Plain.leftE_sq SW.out (by omega) w3z] at K2
            have LV : Plain.leftV (T wi) (wi : Int) = Plain.leftT (T wi) wi := by unfold Plain.leftV; rw [if_pos (Plain.leftE_sq SW.out (by omega) w3z), Int.toNat_natCast]
            rw [LV] at K2
            clear c0 c1 glt K hres hhas hbel y0 y1 y2 y3 dlt ne1 ne4 LV
            by_cases hl : Plain.leftT (T wi) wi < 1 + cq
            · have hE9 : E = 9 := by rw [HDE.out, if_pos hl]
              have NS := hid (NSL.out hl)
              subst hE9
              clear NSL NSO HDE
              generalize Plain.leftT (T wi) wi = z at *
              have b0 : decide (1 + cq ≤ z) = false := by rw [decide_eq_false_iff_not]; omega
              go_wp2_with fail
              refine K2.mono ?_
              rintro e w5 ⟨rfl, b5⟩
              have I5 := hid (IC.out.step b5)
              clear b5 K2 e0 e1 e4
              go_wp2
              go_roundw
              case rel => exact ⟨k + 1, _, _, by omega, by omega, by go_num, by rw [STEP.out, NS.out]; exact I5.out⟩
              case measure => simp [intOf]; omega
            · have hE0 : E = 0 := by rw [HDE.out, if_neg hl]
              have NS := hid (NSO.out hl)
              have HV2 := hid (show V = Plain.doT (T wi) ⟨3, wi, 0, 1 + cq⟩ by rw [← HV.out]; unfold Plain.doV; rw [if_pos (HEE.out.trans hE0)])
              subst hE0
              clear NSL NSO HDE
              generalize Plain.leftT (T wi) wi = z at *
              have b0 : decide (1 + cq ≤ z) = true := by rw [decide_eq_true_eq]; omega
              go_wp2_with fail
              refine K2.mono ?_
              rintro e w5 ⟨rfl, b5⟩
              have I5 := hid (IC.out.step b5)
              have R5 := hid (RS.out.below b5 RS.out.lt)
              have H5 := hid (HH.out.grow b5)
              clear b5 K2 e0 e1 e4
              have z0 := R5.out.c0
              have z1 := R5.out.c1
              have e0 := I5.out.tri.c0 wi wi3
              have e1 := I5.out.tri.c1 wi wi3
              have e2 := I5.out.tri.frozen (wi * 2)
              have e3 := I5.out.tri.frozen (wi * 2 + 1)
              have e4 := I5.out.tri.lt
              have NX := hid (I5.out.set wi wi3 _ _ _ H5.out)
              go_wp2
              go_roundw
              case rel => exact ⟨k + 1, _, _, by omega, by omega, by go_num, by rw [STEP.out, NS.out, ← HV2.out]; exact NX.out⟩
              case measure => simp [intOf]; omega
        case inr.inr =>
          have HD := hid (show Plain.deedA a = ⟨3, wi, 0, 1 + cq⟩ by unfold Plain.deedA; rw [HKD.out, HCT.out, ← HWI.out, ← HTI.out]; first | rw [if_pos rfl] | rw [if_neg (by decide)])
          skip
          go_wp2
          obtain ⟨W, hW⟩ : ∃ W, W = (wr.alloc (.cells #[.int .i64 a.kind, .int .i64 a.who, .int .i64 a.to, .int .i64 a.count] 48)).alloc (boxD ⟨3, wi, 0, 1 + cq⟩) := ⟨_, rfl⟩
          have IX := hid (IW.out.step (w' := W) (by rw [hW]; exact (Below.refl _ _).alloc (Nat.le_refl _) _))
          obtain ⟨y0, y1, y2, y3⟩ : CellD W (wr.heap.size + 1) 0 ⟨3, wi, 0, 1 + cq⟩ := by rw [hW]; have := box_cellD (wr.alloc (.cells #[.int .i64 a.kind, .int .i64 a.who, .int .i64 a.to, .int .i64 a.count] 48)) ⟨3, wi, 0, 1 + cq⟩; simpa using this
          simp only [Nat.zero_add] at y1 y2 y3
          have dlt : wr.heap.size + 1 < W.heap.size := by rw [hW]; simp
          rw [← hW]
          clear hW IW
          have c0 := IX.out.tri.c0 wi wi3
          have c1 := IX.out.tri.c1 wi wi3
          have glt := IX.out.tri.lt
          have ne1 : ¬ W.heap.size = g := by omega
          have ne4 : ¬ W.heap.size = wr.heap.size + 1 := by omega
          have bA := hid (show Below W.heap.size W W.drew from (Below.refl _ _).drew)
          have bB := hid (show Below W.heap.size W (W.alloc (.cells #[.slice none 0 0, .slice none 0 0] 25)).drew from ((Below.refl _ _).alloc (Nat.le_refl _) _).drew)
          have SW := hid (INV.out.sq wi wi3)
          have HDE := hid (Plain.inv_doE INV.out (by omega) a)
          rw [HD.out, HCT.out, ← HWI.out] at HDE
          have NSL := hid (fun h : Plain.leftT (T wi) wi < 1 + cq => show Plain.stepA T a = T by unfold Plain.stepA; rw [if_neg (by rw [HKD.out]; omega), ← HWI.out, HCT.out, if_pos h])
          have NSO := hid (fun h : ¬ Plain.leftT (T wi) wi < 1 + cq => show Plain.stepA T a = Plain.upd T wi (Plain.doT (T wi) ⟨3, wi, 0, 1 + cq⟩) by unfold Plain.stepA; rw [if_neg (by rw [HKD.out]; omega), ← HWI.out, HCT.out, if_neg h, HD.out])
          have K := fun X (b : Below W.heap.size W X) => do_any (VM wi) (VU wi) (T wi) ⟨3, wi, 0, 1 + cq⟩ X ((IX.out.has wi wi3).grow b).has
          generalize hE : Plain.doE (T wi) ⟨3, wi, 0, 1 + cq⟩ = E at *
          generalize hV : Plain.doV (T wi) ⟨3, wi, 0, 1 + cq⟩ = V at *
          have HV := hid hV
          have HEE := hid hE
          clear hE hV
          go_cut [19, 20] from 38 to 140 (fun sa sb wx => ∃ mb x y, sa = .pointer (some ⟨mb, 0, none⟩) ∧ sb = .int .i64 (E : Nat) ∧ Res wx mb x y ∧ HasP (W.heap.size ≤ ·) wx x y (V) ∧ Below W.heap.size W wx)
          case first =>
            go_region_held3 (fun w' => w'.cell? ⟨g, wi * 2, none⟩ = some (VM wi) ∧ w'.cell? ⟨g, wi * 2 + 1, none⟩ = some (VU wi) ∧ w'.cell? ⟨wr.heap.size + 1, 0, none⟩ = some (.int .i64 3) ∧ w'.cell? ⟨wr.heap.size + 1, 1, none⟩ = some (.int .i64 (wi : Nat)) ∧ w'.cell? ⟨wr.heap.size + 1, 2, none⟩ = some (.int .i64 0) ∧ w'.cell? ⟨wr.heap.size + 1, 3, none⟩ = some (.int .i64 (1 + cq))) (go_keep)
              ((go_at_call 16; first
              | (refine (K _ bA.out).mono ?_; rintro e w' ⟨x, y, rfl, hp, b⟩; have HP := hid hp; have BB := hid (bA.out.trans b); obtain ⟨qm, rm, dm, qu, ru, du, rfl, rfl⟩ := hp.has.forms; have IC := hid (IX.out.step BB.out); have f0 := IC.out.tri.c0 wi wi3; have f1 := IC.out.tri.c1 wi wi3; have f4 := (BB.out.cell (p := ⟨wr.heap.size + 1, 0, none⟩) dlt).trans y0; have f5 := (BB.out.cell (p := ⟨wr.heap.size + 1, 1, none⟩) dlt).trans y1; have f6 := (BB.out.cell (p := ⟨wr.heap.size + 1, 2, none⟩) dlt).trans y2; have f7 := (BB.out.cell (p := ⟨wr.heap.size + 1, 3, none⟩) dlt).trans y3; have ne3 : ¬ w'.heap.size = wr.heap.size + 1 := (by have := BB.out.size; omega); have ne2 : ¬ w'.heap.size = g := (by have := IC.out.tri.lt; omega); clear hp b)
              | (refine (K _ bB.out).mono ?_; rintro e w' ⟨x, y, rfl, hp, b⟩; have HP := hid hp; have BB := hid (bB.out.trans (b.mono bB.out.size)); obtain ⟨qm, rm, dm, qu, ru, du, rfl, rfl⟩ := hp.has.forms; have IC := hid (IX.out.step BB.out); have f0 := IC.out.tri.c0 wi wi3; have f1 := IC.out.tri.c1 wi wi3; have f4 := (BB.out.cell (p := ⟨wr.heap.size + 1, 0, none⟩) dlt).trans y0; have f5 := (BB.out.cell (p := ⟨wr.heap.size + 1, 1, none⟩) dlt).trans y1; have f6 := (BB.out.cell (p := ⟨wr.heap.size + 1, 2, none⟩) dlt).trans y2; have f7 := (BB.out.cell (p := ⟨wr.heap.size + 1, 3, none⟩) dlt).trans y3; have ne3 : ¬ w'.heap.size = wr.heap.size + 1 := (by have := BB.out.size; omega); have ne2 : ¬ w'.heap.size = g := (by have := IC.out.tri.lt; omega); have RZ := hid (show Res w' W.heap.size (.slice none 0 0) (.slice none 0 0) from (b.block _ (by simp)).trans (Deep.blk_alloc_new W _)); have z0 := RZ.out.c0; have z1 := RZ.out.c1; have z2 := RZ.out.frozen 0; have z3 := RZ.out.frozen 1; have z4 := RZ.out.lt; clear hp b)))
            all_goals (try go_wp2_with fail)
            all_goals go_meet
            all_goals first
              | exact ⟨_, _, _, rfl, rfl, Deep.blk_alloc_new _ _, HP.out.grow ((Below.refl _ _).alloc (Nat.le_refl _) _), BB.out.alloc BB.out.size _⟩
              | exact ⟨_, _, _, rfl, rfl, RZ.out.set _ _, ((HP.out.apart (fun b hb => by simp at hb; omega)).apart (fun b hb => by simp at hb; omega)).mono (fun b hb => by simp at hb; omega), below_res BB.out (Nat.le_refl _)⟩
          case rest =>
            obtain ⟨mb, x, y, rfl, rfl, hres, hhas, hbel⟩ := hcut
            have IC := hid (IX.out.step hbel)
            have HH := hid (hhas.mono (fun b hb => show b ≠ g by have : W.heap.size ≤ b := hb; omega))
            have RS := hid hres
            obtain ⟨qm, rm, dm, qu, ru, du, rfl, rfl⟩ := hhas.has.forms
            have e0 := IC.out.tri.c0 wi wi3
            have e1 := IC.out.tri.c1 wi wi3
            have e4 := IC.out.tri.lt
            have K2 := Left_c (VM wi) (VU wi) (T wi) (wi : Int) wc (IC.out.has wi wi3).has
            rw [Plain.leftE_sq SW.out (by omega) w3z] at K2
            have LV : Plain.leftV (T wi) (wi : Int) = Plain.leftT (T wi) wi := by unfold Plain.leftV; rw [if_pos (Plain.leftE_sq SW.out (by omega) w3z), Int.toNat_natCast]
            rw [LV] at K2
            clear c0 c1 glt K hres hhas hbel y0 y1 y2 y3 dlt ne1 ne4 LV
            by_cases hl : Plain.leftT (T wi) wi < 1 + cq
            · have hE9 : E = 9 := by rw [HDE.out, if_pos hl]
              have NS := hid (NSL.out hl)
              subst hE9
              clear NSL NSO HDE
              generalize Plain.leftT (T wi) wi = z at *
              have b0 : decide (1 + cq ≤ z) = false := by rw [decide_eq_false_iff_not]; omega
              go_wp2_with fail
              refine K2.mono ?_
              rintro e w5 ⟨rfl, b5⟩
              have I5 := hid (IC.out.step b5)
              clear b5 K2 e0 e1 e4
              go_wp2
              go_roundw
              case rel => exact ⟨k + 1, _, _, by omega, by omega, by go_num, by rw [STEP.out, NS.out]; exact I5.out⟩
              case measure => simp [intOf]; omega
            · have hE0 : E = 0 := by rw [HDE.out, if_neg hl]
              have NS := hid (NSO.out hl)
              have HV2 := hid (show V = Plain.doT (T wi) ⟨3, wi, 0, 1 + cq⟩ by rw [← HV.out]; unfold Plain.doV; rw [if_pos (HEE.out.trans hE0)])
              subst hE0
              clear NSL NSO HDE
              generalize Plain.leftT (T wi) wi = z at *
              have b0 : decide (1 + cq ≤ z) = true := by rw [decide_eq_true_eq]; omega
              go_wp2_with fail
              refine K2.mono ?_
              rintro e w5 ⟨rfl, b5⟩
              have I5 := hid (IC.out.step b5)
              have R5 := hid (RS.out.below b5 RS.out.lt)
              have H5 := hid (HH.out.grow b5)
              clear b5 K2 e0 e1 e4
              have z0 := R5.out.c0
              have z1 := R5.out.c1
              have e0 := I5.out.tri.c0 wi wi3
              have e1 := I5.out.tri.c1 wi wi3
              have e2 := I5.out.tri.frozen (wi * 2)
              have e3 := I5.out.tri.frozen (wi * 2 + 1)
              have e4 := I5.out.tri.lt
              have NX := hid (I5.out.set wi wi3 _ _ _ H5.out)
              go_wp2
              go_roundw
              case rel => exact ⟨k + 1, _, _, by omega, by omega, by go_num, by rw [STEP.out, NS.out, ← HV2.out]; exact NX.out⟩
              case measure => simp [intOf]; omega
end Go.Proofs.Ytcdlgpickjiikag
