/-
  A contract of clock.Play.
-/
import Derived.Test.YtlckhpfokijknaePr
import Derived.Deep.RegionHeld3
namespace Go.Proofs.Ytlckhpfokijknae
open Go.RowKit

theorem wrap_small (x : Int) (h : -1000000 ≤ x ∧ x ≤ 1000000) : IntKind.i64.wrap x = x := by
  rw [IntKind.wrap_i64]; omega

set_option maxHeartbeats 4000000 in
set_option maxRecDepth 100000 in
theorem play_some (n cap : Nat) (p : Option Addr) (l : List Plain.Ev) (h1 : 1 ≤ n) (h8 : n ≤ 8) (hl : l.length ≤ 200) (hcap : l.length ≤ cap) (w : World) (hp : 0 < l.length → ∃ b off, p = some ⟨b, off, none⟩ ∧ CellsE w b off l ∧ b < w.heap.size) :
    Calls Try.prog 6 #[.int .i64 n, .slice p l.length cap] w fun e w' =>
      (Plain.firstE (Plain.evE n l) l.length = 0 ∧ ∃ bn bc gN cN gC cC, e = .returned (.tuple #[.slice (some ⟨bc, 0, none⟩) l.length l.length, .int .i64 0]) ∧ PI n l.length l.length (Plain.st n l l.length).1 (Plain.st n l l.length).2 w w' bn bc gN cN gC cC) ∨
      (Plain.firstE (Plain.evE n l) l.length ≠ 0 ∧ e = .returned (.tuple #[.slice none 0 0, .int .i64 (Plain.firstE (Plain.evE n l) l.length : Nat)]) ∧ Below w.heap.size w w') := by
  have HQ := hid hp
  clear hp
  have hmk1 := run_make_row' (P := Try.prog) 25 34 (.slice none 0 0) 24 Try.underlying25 Try.infoRow rfl .i64 .i64 n (by omega) (by omega)
  have hmk2 := run_make_row' (P := Try.prog) 34 3 (.int .i64 0) 8 Try.underlying34 Try.infoInt rfl .i64 .i64 n (by omega) (by omega)
  have hmk3 := run_make_row' (P := Try.prog) 25 34 (.slice none 0 0) 24 Try.underlying25 Try.infoRow rfl .i64 .i64 l.length (by omega) (by omega)
  have a1 : (1 : Int) ≤ (n : Int) := by omega
  have a2 : (n : Int) ≤ 8 := by omega
  have a3 : ¬ (200 : Int) < (l.length : Int) := by omega
  go_enter Try.func6, Try.ntmps6
  go_wp2
  clear hmk1
  go_loopw [22] (fun i wr => ∃ k : Nat, k ≤ n ∧ i = .int .i64 k ∧ wr.rowIs w.heap.size 34 n (fun s => if s < k then .slice (some ⟨w.heap.size + 1 + s, 0, none⟩) n n else .slice none 0 0) ∧ (∀ s, s < k → RowI wr (w.heap.size + 1 + s) (List.replicate n 0)) ∧ wr.heap.size = w.heap.size + 1 + k ∧ Below w.heap.size w wr) (fun i _ => n - (intOf i).toNat)
  case atStart => exact ⟨0, Nat.zero_le _, rfl, World.rowIs_made w (.slice none 0 0) n 34, fun s hs => by omega, by simp, (Below.refl _ _).alloc (Nat.le_refl _) _⟩
  case round =>
    obtain ⟨k, hk, rfl, hrow, hrows, hsize, hbel⟩ := hrel
    by_cases hlt : k < n
    · have hlt' : (k : Int) < (n : Int) := by omega
      have hsz := hrow.lt
      have hfz := hrow.frozen k
      have hcl := hrow.cell hlt
      rw [if_neg (Nat.lt_irrefl _)] at hcl
      have HR := hid hrow
      have HS := hid hrows
      have HZ := hid hsize
      have HB := hid hbel
      clear hrow hrows hsize hbel
      go_wp2
      have R := now_step HR.out HS.out HZ.out HB.out _ rfl
      go_roundw
      case rel => exact ⟨k + 1, by omega, by go_num, R.1, R.2.1, R.2.2.1, R.2.2.2⟩
      case measure => simp [intOf]; omega
    · have ek : k = n := by omega
      subst ek
      have P0 := hid (play_start (N := l.length) l hrow hrows hsize hbel)
      clear hrow hrows hsize hbel hmk2
      go_wp2
      clear hmk3
      obtain ⟨bc, hbc⟩ : ∃ bc, bc = wr.heap.size := ⟨_, rfl⟩
      rw [← hbc] at P0 ⊢
      obtain ⟨wo, hwo⟩ : ∃ wo, wo = wr.alloc (.cells (madeCells #[.slice none 0 0] l.length) 34) := ⟨_, rfl⟩
      rw [← hwo] at P0 ⊢
      clear hwo hbc
      go_loopw [36] (fun i wx => ∃ (m : Nat) (gN cN gC cC : Nat → Nat), m ≤ l.length ∧ i = .int .i64 m ∧ (∀ j, j < m → Plain.evE k l j = 0) ∧ PI k l.length m (Plain.st k l m).1 (Plain.st k l m).2 w wx w.heap.size bc gN cN gC cC) (fun i _ => l.length - (intOf i).toNat)
      case atStart => exact ⟨0, _, _, _, _, Nat.zero_le _, rfl, fun j hj => by omega, P0.out⟩
      case round =>
        obtain ⟨m, gN, cN, gC, cC, hm, rfl, hval, hpi⟩ := hrel
        have HV := hid hval
        have HP := hid hpi
        clear hval hpi P0 hlt
        by_cases hlt : m < l.length
        · have hlt' : (m : Int) < (l.length : Int) := by omega
          obtain ⟨b, off, hp1, hc, hb⟩ := HQ.out (by omega)
          subst hp1
          have HC := hid hc
          clear hc HQ
          have hcl := HC.out.below HP.out.bel hb m hlt
          obtain ⟨g0, g1, g2⟩ := hcl
          obtain ⟨kk, ww, oo, hev⟩ : ∃ kk ww oo, Plain.ev l m = (kk, ww, oo) := ⟨_, _, _, rfl⟩
          rw [hev] at g0 g1 g2
          simp only at g0 g1 g2
          have HE := hid hev
          clear hev
          have hbb : b < wr.heap.size := Nat.lt_of_lt_of_le hb HP.out.bel.size
          have hmc : (m : Int) ≤ (cap : Int) := by omega
          have K := fun u hu => refev (k : Int) l m b off cap kk ww oo hlt hl HE.out u (HC.out.below HP.out.bel hb |>.below hu hbb) (Nat.lt_of_lt_of_le hbb hu.size)
          by_cases he : Plain.evE k l m = 0
          · rw [he] at K
            have hwh := Plain.evE_wh he
            have hkd := Plain.evE_kd he
            have hof := hid (Plain.evE_of he)
            unfold Plain.kd at hkd
            rw [HE.out] at hwh hkd
            simp only at hwh hkd
            have G := hid (Plain.good_all (n := l.length) m (by omega) HV.out)
            obtain ⟨wn, rfl⟩ := Int.eq_ofNat_of_zero_le hwh.1
            have hwn : wn < k := by omega
            have hwn' : (wn : Int) < (k : Int) := by omega
            have HW := hid (show Plain.wh l m = wn by unfold Plain.wh; rw [HE.out]; rfl)
            clear hwh
            have X0 := hid (show 0 ≤ ((Plain.st k l m).1.getD wn []).getD wn 0 ∧ ((Plain.st k l m).1.getD wn []).getD wn 0 ≤ 200 from by
              have h1 := G.out.nBd wn wn hwn
              have h2 := Plain.cnt_le l wn m
              unfold Plain.N at h1
              omega)
            by_cases h3 : kk = 3
            · subst h3
              have ho := hof.out (by unfold Plain.kd; rw [HE.out])
              rw [HE.out] at ho
              simp only at ho
              obtain ⟨on, rfl⟩ := Int.eq_ofNat_of_zero_le ho.1
              have hon : on < m := by omega
              have honl : (on : Int) < (l.length : Int) := by omega
              clear ho hof
              have HO := hid (show Plain.ofp l m = on by unfold Plain.ofp; rw [HE.out]; rfl)
              have GJ := hid (Plain.good_join G.out h1 h8 (by omega) hwn hon)
              have hact := hid (Plain.st_hear (n := k) HW.out (by unfold Plain.kd; rw [HE.out]) HO.out rfl)
              go_wp2
              go_region_with (go_at_call 11; refine (K _ ((Below.refl _ _).alloc (Nat.le_refl _) _).drew).mono ?_; rintro e u ⟨rfl, hu⟩; replace hu := hid (ref_after HP.out hu); have hc0 := hu.out.c0)
              clear K
              have hc1 := hu.out.c1
              have hc2 := hu.out.c2
              have hn1 := hu.out.pi.nrow.cell hwn
              have hn3 := hu.out.pi.crow.cell (i := on) (by omega)
              rw [if_pos hon] at hn3
              have KJ := hid (hu.out.joinCall hwn hon (G.out.rowLen wn hwn) (G.out.csRow on hon) GJ.out.1)
              have hne1 := hu.out.nebn
              have hne2 := hu.out.pi.nb
              go_wp2
              refine wp_region_noPanic ?_
              refine wp_region_held_drew (S := fun w' => w'.cell? ⟨wr.heap.size, 1, none⟩ = some (.int .i64 wn) ∧ w'.cell? ⟨wr.heap.size, 2, none⟩ = some (.int .i64 on) ∧ w'.cell? ⟨bc, on, none⟩ = some (.slice (some ⟨gC on, 0, none⟩) k (cC on))) (by kernel_rfl) ⟨hc1, hc2, hn3⟩ (fun hHeld => ?_)
              refine wpAnyH_take (i := 0) (oi := ?o0) (v := ?v0) ?hi0 ?hs0 ?hf0 ?hr0 ?hq0 ?hy0 hHeld ?rest0
              case hi0 => simp only [List.getElem?_toArray, List.getElem?_cons_zero]; rfl
              case hs0 => kernel_rfl
              case hf0 => kernel_rfl
              case hr0 => kernel_rfl
              case hq0 => exact fun _ _ _ h => h
              case hy0 => exact Or.inl ⟨by rfl, by intro wz hSw; obtain ⟨s1, s2, s3⟩ := hSw; go_simp; rfl⟩
              simp only [Act.put, List.setIfInBounds_toArray, List.set_cons_succ, List.set_cons_zero]
              refine wpAnyH_take (i := 1) (oi := ?o1) (v := ?v1) ?hi1 ?hs1 ?hf1 ?hr1 ?hq1 ?hy1 hHeld ?rest1
              case hi1 => simp only [List.getElem?_toArray, List.getElem?_cons_succ, List.getElem?_cons_zero]; rfl
              case hs1 => kernel_rfl
              case hf1 => kernel_rfl
              case hr1 => kernel_rfl
              case hq1 => exact fun _ _ _ h => h
              case hy1 => exact Or.inl ⟨by rfl, by intro wz hSw; obtain ⟨s1, s2, s3⟩ := hSw; go_simp; rfl⟩
              simp only [Act.put, List.setIfInBounds_toArray, List.set_cons_succ, List.set_cons_zero]
              refine wpAnyH_take (i := 2) (oi := ?o2) (v := ?v2) ?hi2 ?hs2 ?hf2 ?hr2 ?hq2 ?hy2 hHeld ?rest2
              case hi2 => simp only [List.getElem?_toArray, List.getElem?_cons_succ, List.getElem?_cons_zero]; rfl
              case hs2 => kernel_rfl
              case hf2 => kernel_rfl
              case hr2 => kernel_rfl
              case hq2 => exact fun _ _ _ h => h
              case hy2 => exact Or.inl ⟨by rfl, by intro wz hSw; obtain ⟨s1, s2, s3⟩ := hSw; go_simp; rfl⟩
              simp only [Act.put, List.setIfInBounds_toArray, List.set_cons_succ, List.set_cons_zero]
              refine wpAnyH_take (i := 3) (oi := ?o3) (v := ?v3) ?hi3 ?hs3 ?hf3 ?hr3 ?hq3 ?hy3 hHeld ?rest3
              case hi3 => simp only [List.getElem?_toArray, List.getElem?_cons_succ, List.getElem?_cons_zero]; rfl
              case hs3 => kernel_rfl
              case hf3 => kernel_rfl
              case hr3 => kernel_rfl
              case hq3 => exact fun _ _ _ h => h
              case hy3 => exact Or.inl ⟨by rfl, by intro wz hSw; obtain ⟨s1, s2, s3⟩ := hSw; go_simp; rfl⟩
              simp only [Act.put, List.setIfInBounds_toArray, List.set_cons_succ, List.set_cons_zero]
              refine wpAnyH_take (i := 4) (oi := ?o4) (v := ?v4) ?hi4 ?hs4 ?hf4 ?hr4 ?hq4 ?hy4 hHeld ?rest4
              case hi4 => simp only [List.getElem?_toArray, List.getElem?_cons_succ, List.getElem?_cons_zero]; rfl
              case hs4 => kernel_rfl
              case hf4 => kernel_rfl
              case hr4 => kernel_rfl
              case hq4 => exact fun _ _ _ h => h
              case hy4 => exact Or.inl ⟨by rfl, by intro wz hSw; obtain ⟨s1, s2, s3⟩ := hSw; go_simp; rfl⟩
              simp only [Act.put, List.setIfInBounds_toArray, List.set_cons_succ, List.set_cons_zero]
              refine wpAnyH_take (i := 5) (oi := ?o5) (v := ?v5) ?hi5 ?hs5 ?hf5 ?hr5 ?hq5 ?hy5 hHeld ?rest5
              case hi5 => simp only [List.getElem?_toArray, List.getElem?_cons_succ, List.getElem?_cons_zero]; rfl
              case hs5 => kernel_rfl
              case hf5 => kernel_rfl
              case hr5 => kernel_rfl
              case hq5 => exact fun _ _ _ h => h
              case hy5 => exact Or.inl ⟨by rfl, by intro wz hSw; obtain ⟨s1, s2, s3⟩ := hSw; go_simp; rfl⟩
              simp only [Act.put, List.setIfInBounds_toArray, List.set_cons_succ, List.set_cons_zero]
              refine wpAnyH_take (i := 6) (oi := ?o6) (v := ?v6) ?hi6 ?hs6 ?hf6 ?hr6 ?hq6 ?hy6 hHeld ?rest6
              case hi6 => simp only [List.getElem?_toArray, List.getElem?_cons_succ, List.getElem?_cons_zero]; rfl
              case hs6 => kernel_rfl
              case hf6 => kernel_rfl
              case hr6 => kernel_rfl
              case hq6 => exact fun _ _ _ h => h
              case hy6 => exact Or.inl ⟨by rfl, by intro wz hSw; obtain ⟨s1, s2, s3⟩ := hSw; go_simp; rfl⟩
              simp only [Act.put, List.setIfInBounds_toArray, List.set_cons_succ, List.set_cons_zero]
              refine wpAnyH_take (i := 8) (oi := ?o8) (v := ?v8) ?hi8 ?hs8 ?hf8 ?hr8 ?hq8 ?hy8 hHeld ?rest8
              case hi8 => simp only [List.getElem?_toArray, List.getElem?_cons_succ, List.getElem?_cons_zero]; rfl
              case hs8 => kernel_rfl
              case hf8 => kernel_rfl
              case hr8 => kernel_rfl
              case hq8 => exact fun _ _ _ h => h
              case hy8 => exact Or.inl ⟨by rfl, by intro wz hSw; obtain ⟨s1, s2, s3⟩ := hSw; go_simp; rfl⟩
              simp only [Act.put, List.setIfInBounds_toArray, List.set_cons_succ, List.set_cons_zero]
              refine wpAnyH_take (i := 9) (oi := ?o9) (v := ?v9) ?hi9 ?hs9 ?hf9 ?hr9 ?hq9 ?hy9 hHeld ?rest9
              case hi9 => simp only [List.getElem?_toArray, List.getElem?_cons_succ, List.getElem?_cons_zero]; rfl
              case hs9 => kernel_rfl
              case hf9 => kernel_rfl
              case hr9 => kernel_rfl
              case hq9 => exact fun _ _ _ h => h
              case hy9 => exact Or.inl ⟨by rfl, by intro wz hSw; obtain ⟨s1, s2, s3⟩ := hSw; go_simp; rfl⟩
              simp only [Act.put, List.setIfInBounds_toArray, List.set_cons_succ, List.set_cons_zero]
              refine wpAnyH_take (i := 10) (oi := ?o10) (v := ?v10) ?hi10 ?hs10 ?hf10 ?hr10 ?hq10 ?hy10 hHeld ?rest10
              case hi10 => simp only [List.getElem?_toArray, List.getElem?_cons_succ, List.getElem?_cons_zero]; rfl
              case hs10 => kernel_rfl
              case hf10 => kernel_rfl
              case hr10 => kernel_rfl
              case hq10 => exact fun _ _ _ h => h
              case hy10 => exact Or.inl ⟨by rfl, by intro wz hSw; obtain ⟨s1, s2, s3⟩ := hSw; go_simp; rfl⟩
              simp only [Act.put, List.setIfInBounds_toArray, List.set_cons_succ, List.set_cons_zero]
              refine wpAnyH_take (i := 11) (oi := ?o11) (v := ?v11) ?hi11 ?hs11 ?hf11 ?hr11 ?hq11 ?hy11 hHeld ?rest11
              case hi11 => simp only [List.getElem?_toArray, List.getElem?_cons_succ, List.getElem?_cons_zero]; rfl
              case hs11 => kernel_rfl
              case hf11 => kernel_rfl
              case hr11 => kernel_rfl
              case hq11 => exact fun _ _ _ h => h
              case hy11 => exact Or.inl ⟨by rfl, by intro wz hSw; obtain ⟨s1, s2, s3⟩ := hSw; go_simp; rfl⟩
              simp only [Act.put, List.setIfInBounds_toArray, List.set_cons_succ, List.set_cons_zero]
              refine wpAnyH_take (i := 12) (oi := ?o12) (v := ?v12) ?hi12 ?hs12 ?hf12 ?hr12 ?hq12 ?hy12 hHeld ?rest12
              case hi12 => simp only [List.getElem?_toArray, List.getElem?_cons_succ, List.getElem?_cons_zero]; rfl
              case hs12 => kernel_rfl
              case hf12 => kernel_rfl
              case hr12 => kernel_rfl
              case hq12 => exact fun _ _ _ h => h
              case hy12 => exact Or.inl ⟨by rfl, by intro wz hSw; obtain ⟨s1, s2, s3⟩ := hSw; go_simp; rfl⟩
              simp only [Act.put, List.setIfInBounds_toArray, List.set_cons_succ, List.set_cons_zero]
              refine wpAnyH_ready (rs := [7]) (by kernel_rfl) (by simp) ?_
              refine AllReadyH.cons (o := ?o7) ?hi7 (fun K hK => ?st7) AllReadyH.nil
              case hi7 => simp only [List.getElem?_toArray, List.getElem?_cons_succ, List.getElem?_cons_zero]; rfl
              go_simp
              refine hK.out _ _ ⟨hc1, hc2, hn3⟩ (fun hHeld => ?_)
              clear hK K
              refine wpAnyH_ready (rs := [13]) (by kernel_rfl) (by simp) ?_
              refine AllReadyH.cons (o := ?o13) ?hi13 (fun K hK => ?st13) AllReadyH.nil
              case hi13 => simp only [List.getElem?_toArray, List.getElem?_cons_succ, List.getElem?_cons_zero]; rfl
              go_simp
              refine KJ.out.mono ?_
              rintro e u1 ⟨rfl, hr, hb1⟩
              go_wp2_with fail
              have F1 := hid (hu.out.grow hb1)
              refine hK.out _ _ ⟨F1.out.c1, F1.out.c2, (F1.out.pi.crow.cell (i := on) (by omega)).trans (by rw [if_pos hon])⟩ (fun hHeld => ?_)
              clear hK K
              refine wpAnyH_take (i := 14) (oi := ?o14) (v := ?v14) ?hi14 ?hs14 ?hf14 ?hr14 ?hq14 ?hy14 hHeld ?rest14
              case hi14 => simp only [List.getElem?_toArray, List.getElem?_cons_succ, List.getElem?_cons_zero]; rfl
              case hs14 => kernel_rfl
              case hf14 => kernel_rfl
              case hr14 => kernel_rfl
              case hq14 => exact fun _ _ _ h => h
              case hy14 => exact Or.inl ⟨by rfl, by intro wz hSw; obtain ⟨s1, s2, s3⟩ := hSw; go_simp; rfl⟩
              simp only [Act.put, List.setIfInBounds_toArray, List.set_cons_succ, List.set_cons_zero]
              refine wpAnyH_take (i := 15) (oi := ?o15) (v := ?v15) ?hi15 ?hs15 ?hf15 ?hr15 ?hq15 ?hy15 hHeld ?rest15
              case hi15 => simp only [List.getElem?_toArray, List.getElem?_cons_succ, List.getElem?_cons_zero]; rfl
              case hs15 => kernel_rfl
              case hf15 => kernel_rfl
              case hr15 => kernel_rfl
              case hq15 => exact fun _ _ _ h => h
              case hy15 => exact Or.inl ⟨by rfl, by intro wz hSw; obtain ⟨s1, s2, s3⟩ := hSw; go_simp; rfl⟩
              simp only [Act.put, List.setIfInBounds_toArray, List.set_cons_succ, List.set_cons_zero]
              refine wpAnyH_take (i := 16) (oi := ?o16) (v := ?v16) ?hi16 ?hs16 ?hf16 ?hr16 ?hq16 ?hy16 hHeld ?rest16
              case hi16 => simp only [List.getElem?_toArray, List.getElem?_cons_succ, List.getElem?_cons_zero]; rfl
              case hs16 => kernel_rfl
              case hf16 => kernel_rfl
              case hr16 => kernel_rfl
              case hq16 => exact fun _ _ _ h => h
              case hy16 => exact Or.inl ⟨by rfl, by intro wz hSw; obtain ⟨s1, s2, s3⟩ := hSw; go_simp; rfl⟩
              simp only [Act.put, List.setIfInBounds_toArray, List.set_cons_succ, List.set_cons_zero]
              refine wpAnyH_take (i := 17) (oi := ?o17) (v := ?v17) ?hi17 ?hs17 ?hf17 ?hr17 ?hq17 ?hy17 hHeld ?rest17
              case hi17 => simp only [List.getElem?_toArray, List.getElem?_cons_succ, List.getElem?_cons_zero]; rfl
              case hs17 => kernel_rfl
              case hf17 => kernel_rfl
              case hr17 => kernel_rfl
              case hq17 => exact fun _ _ _ h => h
              case hy17 => exact Or.inl ⟨by rfl, by intro wz hSw; obtain ⟨s1, s2, s3⟩ := hSw; go_simp; rfl⟩
              simp only [Act.put, List.setIfInBounds_toArray, List.set_cons_succ, List.set_cons_zero]
              have ff4 := F1.out.pi.nrow.frozen wn
              have ff5 := F1.out.pi.nrow.cell hwn
              have ff6 := F1.out.pi.nrow.lt
              refine wpAnyH_ready (rs := [18]) (by kernel_rfl) (by simp) ?_
              refine AllReadyH.cons (o := ?o18) ?hi18 (fun K hK => ?st18) AllReadyH.nil
              case hi18 => simp only [List.getElem?_toArray, List.getElem?_cons_succ, List.getElem?_cons_zero]; rfl
              go_simp
              refine hK.out _ _ ⟨(cell_other (fun e => hu.out.nebn e.symm)).trans F1.out.c1, (cell_other (fun e => hu.out.nebn e.symm)).trans F1.out.c2, (cell_other (fun e => hu.out.pi.nb e.symm)).trans ((F1.out.pi.crow.cell (i := on) (by omega)).trans (by rw [if_pos hon]))⟩ (fun hHeld => ?_)
              clear hK K
              refine wpAnyH_done (by kernel_rfl) ?_ _
              refine NoPanic.normal ?_
              obtain ⟨now1, gN1, cN1, hu0, TL, TR, TX, TS⟩ : ∃ now1 gN1 cN1, Hid (RF k l.length m now1 (Plain.st k l m).2 w (u1.setCell ⟨w.heap.size, wn, none⟩ (.slice (some ⟨u.heap.size, 0, none⟩) k k)) w.heap.size bc gN1 cN1 gC cC wr.heap.size 3 wn on) ∧ Hid (now1.length = k) ∧ Hid ((now1.getD wn []).length = k) ∧ Hid (0 ≤ (now1.getD wn []).getD wn 0 ∧ (now1.getD wn []).getD wn 0 ≤ 200) ∧
                  Hid (Plain.st k l (m + 1) = (now1.set wn (Plain.bump (now1.getD wn []) wn), (Plain.st k l m).2 ++ [Plain.bump (now1.getD wn []) wn])) := by
                have eg : ((Plain.st k l m).1.set wn (Plain.joinL ((Plain.st k l m).1.getD wn []) ((Plain.st k l m).2.getD on []))).getD wn [] = Plain.joinL ((Plain.st k l m).1.getD wn []) ((Plain.st k l m).2.getD on []) := by
                  rw [Plain.getD_set, if_pos ⟨rfl, by rw [G.out.nowLen]; exact hwn⟩]
                refine ⟨_, _, _, hu.out.join G.out.nowLen hb1 hwn hr (Nat.le_refl _), ?_, ?_, ?_, ?_⟩
                · show _ = _; rw [List.length_set]; exact G.out.nowLen
                · show _ = _; rw [eg, Plain.joinL_len]; exact G.out.rowLen wn hwn
                · show _ ∧ _; rw [eg]; exact GJ.out.2
                · show _ = _; rw [eg, Plain.set_two]; exact hact.out
              obtain ⟨u2, hu2⟩ : ∃ u2, u2 = u1.setCell ⟨w.heap.size, wn, none⟩ (.slice (some ⟨u.heap.size, 0, none⟩) k k) := ⟨_, rfl⟩
              rw [← hu2] at hu0 ⊢
              clear hu2 hHeld ff4 ff5 ff6 F1 hr hb1 hne1 hne2 KJ hn3 hn1 hc2 hc1 hc0 hu hact GJ X0
              have hc1 := hu0.out.c1
              have hn1 := hu0.out.pi.nrow.cell hwn
              have hn2 := hu0.out.pi.nI wn hwn
              have hx1 := hn2.cell (i := wn) (by rw [TR.out]; exact hwn)
              have hx2 := hn2.frozen wn
              clear hn2
              obtain ⟨x, hx⟩ : ∃ x, x = (now1.getD wn []).getD wn 0 := ⟨_, rfl⟩
              rw [← hx] at hx1 TX
              have HX := hid hx
              clear hx
              obtain ⟨y, hy⟩ : ∃ y, y = x + 1 := ⟨_, rfl⟩
              have q1 : IntKind.i64.wrap (x + 1) = y := by rw [hy]; exact wrap_small _ (by have := TX.out; omega)
              have HY := hid (show Plain.bump (now1.getD wn []) wn = (now1.getD wn []).set wn y by unfold Plain.bump; rw [← HX.out, hy])
              clear hy
              go_wp2
              go_region
              obtain ⟨v, hv⟩ : ∃ v, v = (u2.setCell ⟨gN1 wn, wn, none⟩ (.int .i64 y)).drew := ⟨_, rfl⟩
              rw [← hv]
              have F := hid (show RF k l.length m (now1.set wn (Plain.bump (now1.getD wn []) wn)) (Plain.st k l m).2 w v w.heap.size bc gN1 cN1 gC cC wr.heap.size 3 wn on by
                rw [hv, HY.out]; exact (hu0.out.bump TL.out hwn (by rw [TR.out]; exact hwn) y).drew)
              clear hv hc1 hn1 hx1 hx2 q1 hu0
              have hc1 := F.out.c1
              have hn1 := F.out.pi.nrow.cell hwn
              have RR := hid (show RowI v (gN1 wn) (Plain.bump (now1.getD wn []) wn) from by
                have := F.out.pi.nI wn hwn
                rwa [Plain.getD_set, if_pos ⟨rfl, by rw [TL.out]; exact hwn⟩] at this)
              go_wp2_with fail
              refine (clone_row (gN1 wn) k (cN1 wn) _ (by rw [Plain.bump_len, TR.out]) h1 h8 _ RR.out).mono ?_
              rintro e v2 ⟨g, c, rfl, hr, hg, hbel⟩
              have FD := hid (F.out.done (cp := c) G.out.csLen hbel hr hg)
              have P2 := hid (F.out.pi.grow hbel)
              clear hr hg hbel hc1 hn1
              have hf1 := P2.out.crow.frozen m
              have hf2 := P2.out.crow.cell hlt
              rw [if_neg (Nat.lt_irrefl _)] at hf2
              have hf3 := P2.out.crow.lt
              go_wp2
              go_roundw
              case rel => exact ⟨m + 1, _, _, _, _, by omega, by go_num, Plain.val_next HV.out he, by rw [TS.out]; exact FD.out⟩
              case measure => simp [intOf]; omega
            · have b3 : (kk == 3) = false := beq_false_of_ne h3
              have hact := hid (Plain.st_act (n := k) HW.out (by unfold Plain.kd; rw [HE.out]; exact h3) rfl)
              obtain ⟨now1, gN1, cN1, TP, TL, TR, TX, TS⟩ : ∃ now1 gN1 cN1, Hid (PI k l.length m now1 (Plain.st k l m).2 w wr w.heap.size bc gN1 cN1 gC cC) ∧ Hid (now1.length = k) ∧ Hid ((now1.getD wn []).length = k) ∧ Hid (0 ≤ (now1.getD wn []).getD wn 0 ∧ (now1.getD wn []).getD wn 0 ≤ 200) ∧
                  Hid (Plain.st k l (m + 1) = (now1.set wn (Plain.bump (now1.getD wn []) wn), (Plain.st k l m).2 ++ [Plain.bump (now1.getD wn []) wn])) :=
                ⟨_, gN, cN, HP.out, G.out.nowLen, G.out.rowLen wn hwn, X0.out, hact.out⟩
              clear hact X0
              go_wp2
              go_region_with (go_at_call 11; refine (K _ ((Below.refl _ _).alloc (Nat.le_refl _) _).drew).mono ?_; rintro e u ⟨rfl, hu⟩; replace hu := hid (ref_after TP.out hu); have hc0 := hu.out.c0)
              clear K
              have hc1 := hu.out.c1
              have hn1 := hu.out.pi.nrow.cell hwn
              have hn2 := hu.out.pi.nI wn hwn
              have hx1 := hn2.cell (i := wn) (by rw [TR.out]; exact hwn)
              have hx2 := hn2.frozen wn
              clear hn2
              obtain ⟨x, hx⟩ : ∃ x, x = (now1.getD wn []).getD wn 0 := ⟨_, rfl⟩
              rw [← hx] at hx1 TX
              have HX := hid hx
              clear hx
              obtain ⟨y, hy⟩ : ∃ y, y = x + 1 := ⟨_, rfl⟩
              have q1 : IntKind.i64.wrap (x + 1) = y := by rw [hy]; exact wrap_small _ (by have := TX.out; omega)
              have HY := hid (show Plain.bump (now1.getD wn []) wn = (now1.getD wn []).set wn y by unfold Plain.bump; rw [← HX.out, hy])
              clear hy
              go_wp2
              go_region
              obtain ⟨v, hv⟩ : ∃ v, v = (u.setCell ⟨gN1 wn, wn, none⟩ (.int .i64 y)).drew := ⟨_, rfl⟩
              rw [← hv]
              have F := hid (show RF k l.length m (now1.set wn (Plain.bump (now1.getD wn []) wn)) (Plain.st k l m).2 w v w.heap.size bc gN1 cN1 gC cC wr.heap.size kk wn oo by
                rw [hv, HY.out]; exact (hu.out.bump TL.out hwn (by rw [TR.out]; exact hwn) y).drew)
              clear hv hc1 hn1 hx1 hx2 q1 hu
              have hc1 := F.out.c1
              have hn1 := F.out.pi.nrow.cell hwn
              have RR := hid (show RowI v (gN1 wn) (Plain.bump (now1.getD wn []) wn) from by
                have := F.out.pi.nI wn hwn
                rwa [Plain.getD_set, if_pos ⟨rfl, by rw [TL.out]; exact hwn⟩] at this)
              go_wp2_with fail
              refine (clone_row (gN1 wn) k (cN1 wn) _ (by rw [Plain.bump_len, TR.out]) h1 h8 _ RR.out).mono ?_
              rintro e v2 ⟨g, c, rfl, hr, hg, hbel⟩
              have FD := hid (F.out.done (cp := c) G.out.csLen hbel hr hg)
              have P2 := hid (F.out.pi.grow hbel)
              clear hr hg hbel hc1 hn1
              have hf1 := P2.out.crow.frozen m
              have hf2 := P2.out.crow.cell hlt
              rw [if_neg (Nat.lt_irrefl _)] at hf2
              have hf3 := P2.out.crow.lt
              go_wp2
              go_roundw
              case rel => exact ⟨m + 1, _, _, _, _, by omega, by go_num, Plain.val_next HV.out he, by rw [TS.out]; exact FD.out⟩
              case measure => simp [intOf]; omega
          · have HF := hid (Plain.firstE_no (n := l.length) HV.out hlt he)
            generalize hE : Plain.evE k l m = E at K he HF
            have he' : ¬ (E : Int) = 0 := by omega
            go_wp2
            go_region_with (go_at_call 11; refine (K _ ((Below.refl _ _).alloc (Nat.le_refl _) _).drew).mono ?_; rintro e u ⟨rfl, hu⟩; replace hu := hid hu)
            have RB := hid (show Below w.heap.size w u from (ref_after HP.out hu.out).pi.bel)
            clear hu K
            go_wp2
            go_ret2
            exact .inr ⟨by rw [HF.out]; exact he, ret_pair rfl (by rw [HF.out]), RB.out⟩
        · have em : m = l.length := by omega
          subst em
          have HF := hid (Plain.firstE_ok HV.out)
          go_wp2
          go_ret2
          exact .inl ⟨HF.out, _, _, _, _, _, _, rfl, HP.out⟩

set_option maxHeartbeats 1000000 in
theorem play_far (S : Int) (v : Value) (h : S < 1 ∨ 8 < S) (w : World) :
    Calls Try.prog 6 #[.int .i64 S, v] w fun e w' => e = .returned (.tuple #[.slice none 0 0, .int .i64 2]) ∧ w' = w := by
  rcases h with h | h
  · have h2 : ¬ (1 : Int) ≤ S := by omega
    go_enter Try.func6, Try.ntmps6
    go_wp2
    go_ret2
    exact ⟨rfl, rfl⟩
  · have h2 : (1 : Int) ≤ S := by omega
    have h3 : ¬ S ≤ 8 := by omega
    go_enter Try.func6, Try.ntmps6
    go_wp2
    go_ret2
    exact ⟨rfl, rfl⟩

set_option maxHeartbeats 1000000 in
theorem play_long (S : Int) (p : Option Addr) (m cap : Nat) (h1 : 1 ≤ S) (h8 : S ≤ 8) (h : 200 < m) (hm : m ≤ 9223372036854775807) (w : World) :
    Calls Try.prog 6 #[.int .i64 S, .slice p m cap] w fun e w' => e = .returned (.tuple #[.slice none 0 0, .int .i64 1]) ∧ w' = w := by
  have h' : (200 : Int) < (m : Int) := by omega
  go_enter Try.func6, Try.ntmps6
  go_wp2
  go_ret2
  exact ⟨rfl, rfl⟩

/-- What Play's answer is: the events' clocks, each in a row of its own. -/
def Tab (w : World) (v : Value) (n : Nat) (cs : List (List Int)) : Prop :=
  ∃ bc cap, v = .slice (some ⟨bc, 0, none⟩) cs.length cap ∧ bc < w.heap.size ∧ ∀ j, j < cs.length → ∃ g c, w.cell? ⟨bc, j, none⟩ = some (.slice (some ⟨g, 0, none⟩) n c) ∧ RowI w g (cs.getD j []) ∧ (cs.getD j []).length = n
theorem Tab.below {w w' : World} {v : Value} {n : Nat} {cs : List (List Int)} (h : Tab w v n cs) (b : Below w.heap.size w w') : Tab w' v n cs := by
  obtain ⟨bc, cap, rfl, hlt, hr⟩ := h
  refine ⟨bc, cap, rfl, Nat.lt_of_lt_of_le hlt b.size, fun j hj => ?_⟩
  obtain ⟨g, c, h1, h2, h3⟩ := hr j hj
  exact ⟨g, c, (b.cell (p := ⟨bc, j, none⟩) hlt).trans h1, h2.below b h2.lt, h3⟩

/-- clock.Play at whatever events, where the sites are from 1 to 8 and the events at most 200. -/
theorem play_good (n : Nat) (v : Value) (l : List Plain.Ev) (h1 : 1 ≤ n) (h8 : n ≤ 8) (hl : l.length ≤ 200) (w : World) (h : SegE w v l) (hv : Lies w.heap.size v) :
    Calls Try.prog 6 #[.int .i64 n, v] w fun e w' =>
      (Plain.firstE (Plain.evE n l) l.length = 0 ∧ ∃ r, e = .returned (.tuple #[r, .int .i64 0]) ∧ Tab w' r n (Plain.st n l l.length).2 ∧ Below w.heap.size w w') ∨
      (Plain.firstE (Plain.evE n l) l.length ≠ 0 ∧ e = .returned (.tuple #[.slice none 0 0, .int .i64 (Plain.firstE (Plain.evE n l) l.length : Nat)]) ∧ Below w.heap.size w w') := by
  have key : ∃ p cap, v = .slice p l.length cap ∧ l.length ≤ cap ∧ (0 < l.length → ∃ b off, p = some ⟨b, off, none⟩ ∧ CellsE w b off l ∧ b < w.heap.size) := by
    rcases h with ⟨rfl, p, c, rfl⟩ | ⟨b, o, c, rfl, hc, g⟩
    · exact ⟨p, c, rfl, Nat.zero_le _, fun h => by simp at h⟩
    · exact ⟨_, c, rfl, hc, fun hp => ⟨b, o, rfl, g, hv _ _ _ rfl hp⟩⟩
  obtain ⟨p, cap, rfl, hcap, hp⟩ := key
  refine (play_some n cap p l h1 h8 hl hcap w hp).mono ?_
  rintro e w' (⟨hf, bn, bc, gN, cN, gC, cC, rfl, hpi⟩ | ⟨hf, rfl, hb⟩)
  · refine .inl ⟨hf, _, rfl, ?_, hpi.bel⟩
    have g := Plain.good_all (sites := n) (l := l) (n := l.length) l.length (Nat.le_refl _) (Plain.firstE_zero hf)
    refine ⟨bc, l.length, by rw [g.csLen], hpi.crow.lt, fun j hj => ?_⟩
    rw [g.csLen] at hj
    have hc := hpi.crow.cell hj
    rw [if_pos hj] at hc
    exact ⟨gC j, cC j, hc, hpi.cI j hj, g.csRow j hj⟩
  · exact .inr ⟨hf, rfl, hb⟩
end Go.Proofs.Ytlckhpfokijknae
