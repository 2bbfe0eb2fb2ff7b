/-
  The literals of Value and of Play, and what looks with them; Value.
-/
import Derived.Test.YtiolkeghgodggakGo
namespace Go.Proofs.Ytiolkeghgodggak
open Go.RowKit Go.Shelf Go.Sort
namespace Plain
/-- An entry of the key that is not gone. -/
def livB (k : Int) (e : En) : Bool := e.key == k && !e.gone
def idxI (p : Int → Bool) (l : List Int) : Int := if l.findIdx p < l.length then (l.findIdx p : Nat) else -1
theorem getD_ltI (l : List Int) (k : Nat) (hk : k < l.length) : l.getD k 0 = l[k] := by
  rw [List.getD_eq_getElem?_getD, List.getElem?_eq_getElem hk]; rfl
theorem idxI_hit {p : Int → Bool} {l : List Int} {k : Nat} (hk : k < l.length) (h : p (l.getD k 0) = true) (ha : ∀ j, j < k → p (l.getD j 0) = false) : idxI p l = k := by
  have e : l.findIdx p = k := by
    rw [List.findIdx_eq hk]
    rw [getD_ltI _ _ hk] at h
    refine ⟨h, fun j hj => ?_⟩
    have := ha j hj
    rw [getD_ltI _ _ (by omega)] at this
    exact this
  unfold idxI
  rw [e, if_pos hk]
theorem idxI_miss {p : Int → Bool} {l : List Int} (ha : ∀ j, j < l.length → p (l.getD j 0) = false) : idxI p l = -1 := by
  have e : l.findIdx p = l.length := List.findIdx_eq_length.2 fun x hx => by
    obtain ⟨j, hj, rfl⟩ := List.getElem_of_mem hx
    have := ha j hj
    rw [getD_ltI _ _ hj] at this
    exact this
  unfold idxI
  rw [e, if_neg (by omega)]
theorem idxI_any (p : Int → Bool) (l : List Int) : decide (0 ≤ idxI p l) = l.any p := by
  unfold idxI
  by_cases h : l.findIdx p < l.length
  · rw [if_pos h, List.any_eq_true.2 ⟨l[l.findIdx p], List.getElem_mem h, List.findIdx_getElem⟩]
    simp
  · rw [if_neg h]
    have : l.any p = false := by
      rw [List.any_eq_false]
      intro x hx hp
      exact h (List.findIdx_lt_length_of_exists ⟨x, hx, hp⟩)
    rw [this]
    rfl
end Plain

set_option maxHeartbeats 1000000 in
theorem value1_c (x : Plain.En) (T : Nat) (k : Int) (w : World) (hT : T < w.heap.size) (c : w.cell? ⟨T, 0, none⟩ = some (.int .i64 k)) :
    Calls Try.prog 56 #[aggE x, .pointer (some ⟨T, 0, none⟩)] w fun e w' => e = .returned (.bool (Plain.livB k x)) ∧ Below w.heap.size w w' := by
  have BW := hid (show Below w.heap.size w (w.alloc (boxE x)) from (Below.refl _ _).alloc (Nat.le_refl _) _)
  have c' : (w.alloc (boxE x)).cell? ⟨T, 0, none⟩ = some (.int .i64 k) := by rw [World.cell?_alloc_lt _ _ _ hT]; exact c
  obtain ⟨xk, xv, xt, xw, xg⟩ := x
  have HL := hid (show Plain.livB k ⟨xk, xv, xt, xw, xg⟩ = (xk == k && !xg) from rfl)
  have hne : ¬ T = w.heap.size := by omega
  have hne' : ¬ w.heap.size = T := by omega
  cases hk : (xk == k) with
  | false =>
    have HR := hid (show Plain.livB k ⟨xk, xv, xt, xw, xg⟩ = false by rw [HL.out, hk]; rfl)
    clear HL
    go_enter Try.func56, Try.ntmps56
    go_wp2
    go_ret
    exact ⟨by rw [HR.out]; rfl, BW.out⟩
  | true =>
    have HR := hid (show Plain.livB k ⟨xk, xv, xt, xw, xg⟩ = !xg by rw [HL.out, hk]; rfl)
    clear HL
    go_enter Try.func56, Try.ntmps56
    go_wp2
    go_ret
    exact ⟨by rw [HR.out]; rfl, BW.out⟩

set_option maxHeartbeats 2000000 in
theorem indexW_c (T : Nat) (kk : Int) (b off n c : Nat) (l : List Plain.En) (w : World) (hT : T < w.heap.size) (ct : w.cell? ⟨T, 0, none⟩ = some (.int .i64 kk)) (hn : l.length = n) (hbig : n ≤ 9223372036854775807) (hb : 0 < n → b < w.heap.size) (hc : CellsN w b off l) :
    Calls Try.prog 44 #[.slice (some ⟨b, off, none⟩) n c, .func (.func 56) #[] #[.pointer (some ⟨T, 0, none⟩)]] w fun e w' => e = .returned (.int .i64 (Plain.idx (Plain.livB kk) l)) ∧ Below w.heap.size w w' := by
  have HC := hid hc
  have HT := hid ct
  clear hc ct
  go_enter Try.func44, Try.ntmps44
  go_wp2
  go_loopg [5, 8] n (fun gg _ s8 wr => ∃ k : Nat, k ≤ n ∧ n - k ≤ gg ∧ s8 = .int .i64 k ∧ Aside (Below w.heap.size w wr) ∧ Aside (∀ j, j < k → Plain.livB kk (Plain.en l j) = false))
  case atStart => exact ⟨0, Nat.zero_le _, by omega, rfl, Below.refl _ w, fun j hj => absurd hj (Nat.not_lt_zero _)⟩
  case round =>
    obtain ⟨k, hkk, hg, rfl, BW, A⟩ := hrel
    by_cases hlt : k < n
    · have hltz : (k : Int) < (n : Int) := by omega
      obtain ⟨c0, c1, c2, c3, c4⟩ := (HC.out k (by omega)).below BW.out (hb (by omega))
      have hcall := value1_c (Plain.en l k) T kk wr (Nat.lt_of_lt_of_le hT BW.out.size) ((BW.out.cell (p := ⟨T, 0, none⟩) hT).trans HT.out)
      generalize hy : Plain.en l k = y at c0 c1 c2 c3 c4 hcall
      have HY : Aside (Plain.en l k = y) := hy
      clear hy
      cases hq : Plain.livB kk y with
      | true =>
        rw [hq] at hcall
        go_wp2_with fail
        refine hcall.mono ?_
        rintro e w' ⟨rfl, hb'⟩
        have HB' := hid (BW.out.trans (hb'.mono BW.out.size))
        clear hcall hb'
        go_wp2
        go_ret
        refine ⟨?_, HB'.out⟩
        rw [Plain.idx_hit (by omega) (by rw [HY.out]; exact hq) A.out]
        rfl
      | false =>
        rw [hq] at hcall
        go_wp2_with fail
        refine hcall.mono ?_
        rintro e w' ⟨rfl, hb'⟩
        have HB' := hid (BW.out.trans (hb'.mono BW.out.size))
        clear hcall hb'
        go_wp2
        go_roundg (n - (k + 1))
        case measure => omega
        case rel =>
          refine ⟨k + 1, by omega, by omega, by go_num, HB'.out, (show Aside _ from fun j hj => ?_)⟩
          by_cases e : j = k
          · subst e
            rw [HY.out]; exact hq
          · exact A.out j (by omega)
    · have hltz : ¬ (k : Int) < (n : Int) := by omega
      have : k = n := by omega
      subst this
      go_wp2
      go_ret
      refine ⟨?_, BW.out⟩
      rw [Plain.idx_miss (fun j hj => A.out j (by omega))]
      rfl
theorem indexV (T : Nat) (kk : Int) (v : Value) (l : List Plain.En) (w : World) (hT : T < w.heap.size) (ct : w.cell? ⟨T, 0, none⟩ = some (.int .i64 kk)) (hbig : l.length ≤ 9223372036854775807) (hs : SegN w v l) (hl : Lies w.heap.size v) :
    Calls Try.prog 44 #[v, .func (.func 56) #[] #[.pointer (some ⟨T, 0, none⟩)]] w fun e w' => e = .returned (.int .i64 (Plain.idx (Plain.livB kk) l)) ∧ Below w.heap.size w w' := by
  rcases hs with ⟨rfl, q, c, rfl⟩ | ⟨b, off, c, rfl, _, hc⟩
  · exact (index_nil q c _ w).mono fun e w' ⟨h1, h2⟩ => ⟨by rw [h1]; rfl, by rw [h2]; exact Below.refl _ _⟩
  · exact indexW_c T kk b off l.length c l w hT ct rfl hbig (fun h => hl ⟨b, off, none⟩ _ _ rfl h) hc
namespace Plain
theorem idx_lives {l : List En} (hs : Srt l) (k : Int) : (idx (livB k) l < 0 ∧ lives k l = false) ∨ ∃ j : Nat, j < l.length ∧ idx (livB k) l = (j : Int) ∧ lives k l = true ∧ look k l = some (en l j) := by
  have ha : l.any (livB k) = lives k l := lives_any hs k
  have hd := idx_any (livB k) l
  by_cases h : l.findIdx (livB k) < l.length
  · refine .inr ⟨l.findIdx (livB k), h, ?_, ?_, ?_⟩
    · unfold idx; rw [if_pos h]
    · rw [← ha]
      exact List.any_eq_true.2 ⟨l[l.findIdx (livB k)], List.getElem_mem h, List.findIdx_getElem⟩
    · have hp : livB k l[l.findIdx (livB k)] = true := List.findIdx_getElem
      have hk : (l[l.findIdx (livB k)]).key = k := by
        have hp' : ((l[l.findIdx (livB k)]).key == k && !(l[l.findIdx (livB k)]).gone) = true := hp
        exact beq_iff_eq.1 ((Bool.and_eq_true _ _).mp hp').1
      have := look_mem hs (List.getElem_mem h)
      rw [hk] at this
      rw [this, en_lt h]
  · refine .inl ⟨?_, ?_⟩
    · unfold idx; rw [if_neg h]; decide
    · rw [← ha, List.any_eq_false]
      intro x hx hp
      exact h (List.findIdx_lt_length_of_exists ⟨x, hx, hp⟩)
end Plain

set_option maxHeartbeats 4000000 in
set_option maxRecDepth 100000 in
/-- Value. -/
theorem value_c (R oo : Nat) (XX : Win) (H who : Nat) (lp : Option Addr) (lc : Nat) (L : List Int) (s : Nat → List Plain.En) (la ke T : Int) (hw : who < 8) (hL4 : L.length ≤ 4) (hL : ∀ x, x ∈ L → 0 ≤ x ∧ x < 256) (hS : Plain.Sok T s) (w : World) (h : StI R oo XX H w who lp lc L s) :
    Calls Try.prog 50 #[.pointer (some ⟨R, oo, none⟩), .int .i64 la, .int .i64 ke] w fun e w' => e = .returned (.tuple #[.int .i64 (Plain.valV L who s la ke), .int .i64 (Plain.valE L who s la ke : Nat)]) ∧ Below w.heap.size w w' := by
  have hmf : ∀ (fn : Fn) (first cap : Array Value) (w : World), (Instr.makeFunc fn first cap).run Try.prog w = .ok (.func fn first cap) w := fun _ _ _ _ => rfl
  obtain ⟨WA, hWA⟩ : ∃ WA, WA = w.alloc (.cells #[.int .i64 ke] 3) := ⟨_, rfl⟩
  have BA := hid (show Below w.heap.size w WA by rw [hWA]; exact (Below.refl _ _).alloc (Nat.le_refl _) _)
  have ck : WA.cell? ⟨w.heap.size, 0, none⟩ = some (.int .i64 ke) := by rw [hWA, World.cell?_alloc_at _ _ _ _ rfl]; rfl
  have hTA : w.heap.size < WA.heap.size := by rw [hWA]; simp
  have K0 := refuse_c R oo XX H who lp lc L s la ke hw hL4 hL WA (h.grow BA.out)
  by_cases hrf : Plain.rfS L who la ke ≠ 0
  · have HV := hid (show Plain.valE L who s la ke = Plain.rfS L who la ke by unfold Plain.valE; rw [if_pos hrf])
    have HW := hid (show Plain.valV L who s la ke = 0 by unfold Plain.valV; rw [HV.out, if_pos hrf])
    rw [HV.out, HW.out]
    clear HV HW h hS hL
    generalize Plain.rfS L who la ke = E at *
    have hE : ((E : Int) != 0) = true := by simpa using hrf
    go_enter Try.func50, Try.ntmps50
    go_wp2_with fail
    rw [← hWA]
    clear hWA
    refine K0.mono ?_
    rintro e w1 ⟨rfl, b1⟩
    have B1 := hid (BA.out.trans (b1.mono BA.out.size))
    clear K0 b1 BA
    go_wp2
    go_ret2
    exact ⟨rfl, B1.out⟩
  have hr0 : Plain.rfS L who la ke = 0 := Classical.not_not.1 hrf
  rw [hr0] at K0
  have hin : (0 ≤ la ∧ la < L.length) ∧ (0 ≤ ke ∧ ke < 8) := by
    unfold Plain.rfS at hr0
    by_cases x : (la < 0 ∨ (L.length : Int) ≤ la) ∨ (ke < 0 ∨ 7 < ke)
    · rw [if_pos x] at hr0; omega
    · omega
  obtain ⟨j, rfl⟩ : ∃ j : Nat, la = (j : Int) := ⟨la.toNat, by omega⟩
  have hj : j < L.length := by omega
  have hjz : (j : Int) < (L.length : Int) := by omega
  have HE := hid (show Plain.valE L who s (j : Int) ke = if Plain.lives ke (s j) = false then 6 else 0 by unfold Plain.valE; rw [if_neg hrf, Int.toNat_natCast])
  have HI := hid (Plain.idx_lives (hS.srt j) ke)
  have l8 := hS.len j
  have HH := hid h
  clear hrf hr0 hS hL h hin
  obtain ⟨m, hm⟩ : ∃ m, m = L.length := ⟨_, rfl⟩
  have HM := hid hm
  rw [← hm] at hjz
  clear hm
  go_enter Try.func50, Try.ntmps50
  go_wp2_with fail
  rw [← hWA]
  clear hWA
  refine K0.mono ?_
  rintro e w1 ⟨rfl, b1⟩
  have B1 := hid (BA.out.trans (b1.mono BA.out.size))
  have H1 := HH.out.grow B1.out
  have x2 := H1.c2
  rw [← HM.out] at x2
  obtain ⟨p, c, xj, sg, ly, _⟩ := H1.has hj
  have ck1 := (b1.cell (p := ⟨w.heap.size, 0, none⟩) hTA).trans ck
  have KI := indexV w.heap.size ke (.slice p (s j).length c) (s j) w1 (Nat.lt_of_lt_of_le hTA b1.size) ck1 (by omega) sg ly
  have SG := hid sg
  have LY := hid ly
  clear K0 b1 BA H1 sg ly ck hTA HH
  rcases HI.out with ⟨hneg, hlv⟩ | ⟨i, hi, hix, hlv, hlk⟩
  · have HF := hid (show Plain.valE L who s (j : Int) ke = 6 by rw [HE.out, if_pos hlv])
    have HG := hid (show Plain.valV L who s (j : Int) ke = 0 by unfold Plain.valV; rw [HF.out, if_pos (by decide)])
    clear HE HI hlv
    generalize Plain.idx (Plain.livB ke) (s j) = ix at *
    generalize (s j).length = ln at *
    go_wp2_with fail
    refine KI.mono ?_
    rintro e w2 ⟨rfl, b2⟩
    have B2 := hid (B1.out.trans (b2.mono B1.out.size))
    clear KI b2 B1 SG LY
    go_wp2
    go_ret2
    exact ⟨by rw [HF.out, HG.out]; rfl, B2.out⟩
  · have HF := hid (show Plain.valE L who s (j : Int) ke = 0 by rw [HE.out, if_neg (by rw [hlv]; decide)])
    have HG := hid (show Plain.valV L who s (j : Int) ke = (Plain.en (s j) i).value by unfold Plain.valV; rw [HF.out, if_neg (by decide), Int.toNat_natCast, hlk])
    rw [hix] at KI
    clear HE HI hlv hlk hix
    obtain ⟨b, off, c', e', hb, hcc⟩ := SG.out.some (by omega)
    injection e' with e1 e2 e3
    subst e1
    have hlt := LY.out ⟨b, off, none⟩ _ _ rfl (by omega)
    have CC := hid (hcc i hi)
    obtain ⟨V, hV⟩ : ∃ V, V = (Plain.en (s j) i).value := ⟨_, rfl⟩
    have HVV := hid hV
    have hiz : (i : Int) < ((s j).length : Int) := by omega
    have hi0 : ¬ (i : Int) < 0 := by omega
    have LT := hid hlt
    clear hV hcc e3 hlt hb SG LY
    generalize (s j).length = ln at *
    go_wp2_with fail
    refine KI.mono ?_
    rintro e w2 ⟨rfl, b2⟩
    have B2 := hid (B1.out.trans (b2.mono B1.out.size))
    have y1 := (CC.out.below b2 LT.out).c1
    rw [← HVV.out] at y1
    clear KI b2 B1 CC LT
    go_wp2
    go_ret2
    exact ⟨by rw [HF.out, HG.out, ← HVV.out]; rfl, B2.out⟩

/-! ### The literal of Play -/
set_option maxHeartbeats 1000000 in
theorem play1_c (x : Int) (n A : Nat) (hn : n ≤ 8) (h1 : -9223372036854775808 ≤ x) (h2 : x ≤ 9223372036854775807) (w : World) (c : w.cell? ⟨A, 0, none⟩ = some (.int .i64 ((2 ^ n - 1 : Nat) : Int))) :
    Calls Try.prog 21 #[.int .i64 x, .pointer (some ⟨A, 0, none⟩)] w fun e w' => e = .returned (.bool (decide (x < 0 ∨ (2 : Int) ^ n ≤ x))) ∧ w' = w := by
  have K := mayRead_all x n hn h1 h2 w
  generalize decide (x < 0 ∨ (2 : Int) ^ n ≤ x) = r at K ⊢
  generalize ((2 ^ n - 1 : Nat) : Int) = y at K c
  clear hn h1 h2
  go_enter Try.func21, Try.ntmps21
  go_wp2_with fail
  refine K.mono ?_
  rintro e wx ⟨rfl, hx⟩
  have hy := hx.symm
  clear hx
  subst hy
  go_wp2
  go_ret
  exact ⟨rfl, rfl⟩

set_option maxHeartbeats 2000000 in
theorem indexP_c (p : Option Addr) (m c A n : Nat) (L : List Int) (w : World) (hn : n ≤ 8) (hm : L.length = m) (hbig : m ≤ 9223372036854775807) (hwf : ∀ x, x ∈ L → -9223372036854775808 ≤ x ∧ x ≤ 9223372036854775807) (ca : w.cell? ⟨A, 0, none⟩ = some (.int .i64 ((2 ^ n - 1 : Nat) : Int))) (hp : Nums w p L) :
    Calls Try.prog 34 #[.slice p m c, .func (.func 21) #[] #[.pointer (some ⟨A, 0, none⟩)]] w fun e w' => e = .returned (.int .i64 (Plain.idxI (fun x => decide (x < 0 ∨ (2 : Int) ^ n ≤ x)) L)) ∧ w' = w := by
  have HP := hid hp
  have HM := hid hm
  have HA := hid ca
  have HW := hid hwf
  obtain ⟨f, hf⟩ : ∃ f : Int → Bool, f = fun x => decide (x < 0 ∨ (2 : Int) ^ n ≤ x) := ⟨_, rfl⟩
  rw [← hf]
  have KF := hid (fun x (h1 : -9223372036854775808 ≤ x) (h2 : x ≤ 9223372036854775807) W c => by
    have := play1_c x n A hn h1 h2 W c
    rw [show decide (x < 0 ∨ (2 : Int) ^ n ≤ x) = f x by rw [hf]] at this
    exact this)
  clear hp hm ca hwf hf
  go_enter Try.func34, Try.ntmps34
  go_wp2
  go_loopg [5, 8] m (fun gg _ s8 wr => ∃ kk : Nat, kk ≤ m ∧ m - kk ≤ gg ∧ s8 = .int .i64 kk ∧ wr = w ∧ Aside (∀ j, j < kk → f (L.getD j 0) = false))
  case atStart => exact ⟨0, Nat.zero_le _, by omega, rfl, rfl, fun j hj => absurd hj (Nat.not_lt_zero _)⟩
  case round =>
    obtain ⟨kk, hkk, hg, rfl, rfl, A0⟩ := hrel
    by_cases hlt : kk < m
    · have hltz : (kk : Int) < (m : Int) := by omega
      have hkl : kk < L.length := by rw [HM.out]; exact hlt
      obtain ⟨b, off, rfl, _, hc⟩ := HP.out (by omega)
      have c0 := hc kk hkl
      clear hc
      have hin := HW.out _ (getD_mem L 0 hkl)
      have hcall := KF.out (L.getD kk 0) hin.1 hin.2 wr HA.out
      clear hin
      generalize hy : L.getD kk 0 = y at c0 hcall
      have HY : Aside (L.getD kk 0 = y) := hy
      clear hy
      cases hq : f y with
      | true =>
        rw [hq] at hcall
        go_wp2_with fail
        refine hcall.mono ?_
        rintro e w' ⟨rfl, rfl⟩
        clear hcall
        go_wp2
        go_ret
        refine ⟨?_, rfl⟩
        rw [Plain.idxI_hit hkl (by rw [HY.out]; exact hq) A0.out]
        rfl
      | false =>
        rw [hq] at hcall
        go_wp2_with fail
        refine hcall.mono ?_
        rintro e w' ⟨rfl, rfl⟩
        clear hcall
        go_wp2
        go_roundg (m - (kk + 1))
        case measure => omega
        case rel =>
          refine ⟨kk + 1, by omega, by omega, by go_num, rfl, (show Aside _ from fun j hj => ?_)⟩
          by_cases e : j = kk
          · subst e
            rw [HY.out]; exact hq
          · exact A0.out j (by omega)
    · have hltz : ¬ (kk : Int) < (m : Int) := by omega
      have : kk = m := by omega
      subst this
      go_wp2
      go_ret
      refine ⟨?_, rfl⟩
      rw [Plain.idxI_miss (fun j hj => A0.out j (by have := HM.out; omega))]
      rfl
theorem containsP (p : Option Addr) (m c A n : Nat) (L : List Int) (w : World) (hn : n ≤ 8) (hm : L.length = m) (hbig : m ≤ 9223372036854775807) (hwf : ∀ x, x ∈ L → -9223372036854775808 ≤ x ∧ x ≤ 9223372036854775807) (ca : w.cell? ⟨A, 0, none⟩ = some (.int .i64 ((2 ^ n - 1 : Nat) : Int))) (hp : Nums w p L) :
    Calls Try.prog 20 #[.slice p m c, .func (.func 21) #[] #[.pointer (some ⟨A, 0, none⟩)]] w fun e w' => e = .returned (.bool (L.any (fun x => decide (x < 0 ∨ (2 : Int) ^ n ≤ x)))) ∧ w' = w := by
  rw [← Plain.idxI_any]
  have K := indexP_c p m c A n L w hn hm hbig hwf ca hp
  generalize Plain.idxI (fun x => decide (x < 0 ∨ (2 : Int) ^ n ≤ x)) L = r at K ⊢
  clear hn hm hbig hwf ca hp
  go_enter Try.func20, Try.ntmps20
  go_wp2_with fail
  refine K.mono ?_
  rintro e wx ⟨rfl, hx⟩
  have hy := hx.symm
  clear hx
  subst hy
  go_wp2
  go_ret
  exact ⟨rfl, rfl⟩
end Go.Proofs.Ytiolkeghgodggak
