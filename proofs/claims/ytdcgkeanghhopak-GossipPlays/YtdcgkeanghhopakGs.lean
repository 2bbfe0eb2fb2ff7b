/-
  The literals of write and of Play, and slices.ContainsFunc with them.
-/
import Derived.Test.YtdcgkeanghhopakGo
namespace Go.Proofs.Ytdcgkeanghhopak
open Go.RowKit Go.Shelf Go.Sort
namespace Plain
/-- An entry of the key that is not gone. -/
def livB (k : Int) (e : En) : Bool := e.key == k && !e.gone
def idxI (p : Int → Bool) (l : List Int) : Int := if l.findIdx p < l.length then (l.findIdx p : Nat) else -1
theorem getD_ltI (l : List Int) (k : Nat) (hk : k < l.length) : l.getD k 0 = l[k] := by
  rw [List.getD_eq_getElem?_getD, List.getElem?_eq_getElem hk]; rfl
theorem idxI_hit {p : Int → Bool} {l : List Int} {k : Nat} (hk : k < l.length) (h : p (l.getD k 0) = true) (ha : ∀ j, j < k → p (l.getD j 0) = false) : idxI p l = k := by
  have e : l.findIdx p = k := by
    rw [List.findIdx_eq hk]
    rw [getD_ltI _ _ hk] at h
    refine ⟨h, fun j hj => ?_⟩
    have := ha j hj
    rw [getD_ltI _ _ (by omega)] at this
    exact this
  unfold idxI
  rw [e, if_pos hk]
theorem idxI_miss {p : Int → Bool} {l : List Int} (ha : ∀ j, j < l.length → p (l.getD j 0) = false) : idxI p l = -1 := by
  have e : l.findIdx p = l.length := List.findIdx_eq_length.2 fun x hx => by
    obtain ⟨j, hj, rfl⟩ := List.getElem_of_mem hx
    have := ha j hj
    rw [getD_ltI _ _ hj] at this
    exact this
  unfold idxI
  rw [e, if_neg (by omega)]
theorem idxI_any (p : Int → Bool) (l : List Int) : decide (0 ≤ idxI p l) = l.any p := by
  unfold idxI
  by_cases h : l.findIdx p < l.length
  · rw [if_pos h, List.any_eq_true.2 ⟨l[l.findIdx p], List.getElem_mem h, List.findIdx_getElem⟩]
    simp
  · rw [if_neg h]
    have : l.any p = false := by
      rw [List.any_eq_false]
      intro x hx hp
      exact h (List.findIdx_lt_length_of_exists ⟨x, hx, hp⟩)
    rw [this]
    rfl
end Plain

set_option maxHeartbeats 1000000 in
theorem write1_c (x : Plain.En) (T : Nat) (k : Int) (w : World) (hT : T < w.heap.size) (c : w.cell? ⟨T, 4, none⟩ = some (.int .i64 k)) :
    Calls Try.prog 45 #[aggE x, .pointer (some ⟨T, 0, none⟩)] w fun e w' => e = .returned (.bool (Plain.livB k x)) ∧ Below w.heap.size w w' := by
  have BW := hid (show Below w.heap.size w (w.alloc (boxE x)) from (Below.refl _ _).alloc (Nat.le_refl _) _)
  have c' : (w.alloc (boxE x)).cell? ⟨T, 4, none⟩ = some (.int .i64 k) := by rw [World.cell?_alloc_lt _ _ _ hT]; exact c
  obtain ⟨xk, xv, xt, xw, xg⟩ := x
  have HL := hid (show Plain.livB k ⟨xk, xv, xt, xw, xg⟩ = (xk == k && !xg) from rfl)
  have hne : ¬ T = w.heap.size := by omega
  have hne' : ¬ w.heap.size = T := by omega
  cases hk : (xk == k) with
  | false =>
    have HR := hid (show Plain.livB k ⟨xk, xv, xt, xw, xg⟩ = false by rw [HL.out, hk]; rfl)
    clear HL
    go_enter Try.func45, Try.ntmps45
    go_wp2
    go_ret
    exact ⟨by rw [HR.out]; rfl, BW.out⟩
  | true =>
    have HR := hid (show Plain.livB k ⟨xk, xv, xt, xw, xg⟩ = !xg by rw [HL.out, hk]; rfl)
    clear HL
    go_enter Try.func45, Try.ntmps45
    go_wp2
    go_ret
    exact ⟨by rw [HR.out]; rfl, BW.out⟩

set_option maxHeartbeats 2000000 in
theorem indexW_c (T : Nat) (kk : Int) (b off n c : Nat) (l : List Plain.En) (w : World) (hT : T < w.heap.size) (ct : w.cell? ⟨T, 4, none⟩ = some (.int .i64 kk)) (hn : l.length = n) (hbig : n ≤ 9223372036854775807) (hb : 0 < n → b < w.heap.size) (hc : CellsN w b off l) :
    Calls Try.prog 39 #[.slice (some ⟨b, off, none⟩) n c, .func (.func 45) #[] #[.pointer (some ⟨T, 0, none⟩)]] w fun e w' => e = .returned (.int .i64 (Plain.idx (Plain.livB kk) l)) ∧ Below w.heap.size w w' := by
  have HC := hid hc
  have HT := hid ct
  clear hc ct
  go_enter Try.func39, Try.ntmps39
  go_wp2
  go_loopg [5, 8] n (fun gg _ s8 wr => ∃ k : Nat, k ≤ n ∧ n - k ≤ gg ∧ s8 = .int .i64 k ∧ Aside (Below w.heap.size w wr) ∧ Aside (∀ j, j < k → Plain.livB kk (Plain.en l j) = false))
  case atStart => exact ⟨0, Nat.zero_le _, by omega, rfl, Below.refl _ w, fun j hj => absurd hj (Nat.not_lt_zero _)⟩
  case round =>
    obtain ⟨k, hkk, hg, rfl, BW, A⟩ := hrel
    by_cases hlt : k < n
    · have hltz : (k : Int) < (n : Int) := by omega
      obtain ⟨c0, c1, c2, c3, c4⟩ := (HC.out k (by omega)).below BW.out (hb (by omega))
      have hcall := write1_c (Plain.en l k) T kk wr (Nat.lt_of_lt_of_le hT BW.out.size) ((BW.out.cell (p := ⟨T, 4, none⟩) hT).trans HT.out)
      generalize hy : Plain.en l k = y at c0 c1 c2 c3 c4 hcall
      have HY : Aside (Plain.en l k = y) := hy
      clear hy
      cases hq : Plain.livB kk y with
      | true =>
        rw [hq] at hcall
        go_wp2_with fail
        refine hcall.mono ?_
        rintro e w' ⟨rfl, hb'⟩
        have HB' := hid (BW.out.trans (hb'.mono BW.out.size))
        clear hcall hb'
        go_wp2
        go_ret
        refine ⟨?_, HB'.out⟩
        rw [Plain.idx_hit (by omega) (by rw [HY.out]; exact hq) A.out]
        rfl
      | false =>
        rw [hq] at hcall
        go_wp2_with fail
        refine hcall.mono ?_
        rintro e w' ⟨rfl, hb'⟩
        have HB' := hid (BW.out.trans (hb'.mono BW.out.size))
        clear hcall hb'
        go_wp2
        go_roundg (n - (k + 1))
        case measure => omega
        case rel =>
          refine ⟨k + 1, by omega, by omega, by go_num, HB'.out, (show Aside _ from fun j hj => ?_)⟩
          by_cases e : j = k
          · subst e
            rw [HY.out]; exact hq
          · exact A.out j (by omega)
    · have hltz : ¬ (k : Int) < (n : Int) := by omega
      have : k = n := by omega
      subst this
      go_wp2
      go_ret
      refine ⟨?_, BW.out⟩
      rw [Plain.idx_miss (fun j hj => A.out j (by omega))]
      rfl
theorem containsW (T : Nat) (kk : Int) (v : Value) (l : List Plain.En) (w : World) (hT : T < w.heap.size) (ct : w.cell? ⟨T, 4, none⟩ = some (.int .i64 kk)) (hbig : l.length ≤ 9223372036854775807) (hs : SegN w v l) (hl : Lies w.heap.size v) :
    Calls Try.prog 28 #[v, .func (.func 45) #[] #[.pointer (some ⟨T, 0, none⟩)]] w fun e w' => e = .returned (.bool (l.any (Plain.livB kk))) ∧ Below w.heap.size w w' := by
  rw [← Plain.idx_any]
  have K : Calls Try.prog 39 #[v, .func (.func 45) #[] #[.pointer (some ⟨T, 0, none⟩)]] w fun e w' => e = .returned (.int .i64 (Plain.idx (Plain.livB kk) l)) ∧ Below w.heap.size w w' := by
    rcases hs with ⟨rfl, q, c, rfl⟩ | ⟨b, off, c, rfl, _, hc⟩
    · exact (index_nil q c _ w).mono fun e w' ⟨h1, h2⟩ => ⟨by rw [h1]; rfl, by rw [h2]; exact Below.refl _ _⟩
    · exact indexW_c T kk b off l.length c l w hT ct rfl hbig (fun h => hl ⟨b, off, none⟩ _ _ rfl h) hc
  generalize Plain.idx (Plain.livB kk) l = r at K ⊢
  clear hs hl ct
  go_enter Try.func28, Try.ntmps28
  go_wp2_with fail
  refine K.mono ?_
  rintro e w' ⟨rfl, hb⟩
  go_wp2
  go_ret
  exact ⟨rfl, hb⟩

/-! ### The literal of Play -/
set_option maxHeartbeats 1000000 in
theorem play1_c (x : Int) (n A : Nat) (hn : n ≤ 8) (h1 : -9223372036854775808 ≤ x) (h2 : x ≤ 9223372036854775807) (w : World) (c : w.cell? ⟨A, 0, none⟩ = some (.int .i64 ((2 ^ n - 1 : Nat) : Int))) :
    Calls Try.prog 21 #[.int .i64 x, .pointer (some ⟨A, 0, none⟩)] w fun e w' => e = .returned (.bool (decide (x < 0 ∨ (2 : Int) ^ n ≤ x))) ∧ w' = w := by
  have K := mayRead_all x n hn h1 h2 w
  generalize decide (x < 0 ∨ (2 : Int) ^ n ≤ x) = r at K ⊢
  generalize ((2 ^ n - 1 : Nat) : Int) = y at K c
  clear hn h1 h2
  go_enter Try.func21, Try.ntmps21
  go_wp2_with fail
  refine K.mono ?_
  rintro e wx ⟨rfl, hx⟩
  have hy := hx.symm
  clear hx
  subst hy
  go_wp2
  go_ret
  exact ⟨rfl, rfl⟩

set_option maxHeartbeats 2000000 in
theorem indexP_c (p : Option Addr) (m c A n : Nat) (L : List Int) (w : World) (hn : n ≤ 8) (hm : L.length = m) (hbig : m ≤ 9223372036854775807) (hwf : ∀ x, x ∈ L → -9223372036854775808 ≤ x ∧ x ≤ 9223372036854775807) (ca : w.cell? ⟨A, 0, none⟩ = some (.int .i64 ((2 ^ n - 1 : Nat) : Int))) (hp : Nums w p L) :
    Calls Try.prog 32 #[.slice p m c, .func (.func 21) #[] #[.pointer (some ⟨A, 0, none⟩)]] w fun e w' => e = .returned (.int .i64 (Plain.idxI (fun x => decide (x < 0 ∨ (2 : Int) ^ n ≤ x)) L)) ∧ w' = w := by
  have HP := hid hp
  have HM := hid hm
  have HA := hid ca
  have HW := hid hwf
  obtain ⟨f, hf⟩ : ∃ f : Int → Bool, f = fun x => decide (x < 0 ∨ (2 : Int) ^ n ≤ x) := ⟨_, rfl⟩
  rw [← hf]
  have KF := hid (fun x (h1 : -9223372036854775808 ≤ x) (h2 : x ≤ 9223372036854775807) W c => by
    have := play1_c x n A hn h1 h2 W c
    rw [show decide (x < 0 ∨ (2 : Int) ^ n ≤ x) = f x by rw [hf]] at this
    exact this)
  clear hp hm ca hwf hf
  go_enter Try.func32, Try.ntmps32
  go_wp2
  go_loopg [5, 8] m (fun gg _ s8 wr => ∃ kk : Nat, kk ≤ m ∧ m - kk ≤ gg ∧ s8 = .int .i64 kk ∧ wr = w ∧ Aside (∀ j, j < kk → f (L.getD j 0) = false))
  case atStart => exact ⟨0, Nat.zero_le _, by omega, rfl, rfl, fun j hj => absurd hj (Nat.not_lt_zero _)⟩
  case round =>
    obtain ⟨kk, hkk, hg, rfl, rfl, A0⟩ := hrel
    by_cases hlt : kk < m
    · have hltz : (kk : Int) < (m : Int) := by omega
      have hkl : kk < L.length := by rw [HM.out]; exact hlt
      obtain ⟨b, off, rfl, _, hc⟩ := HP.out (by omega)
      have c0 := hc kk hkl
      clear hc
      have hin := HW.out _ (getD_mem L 0 hkl)
      have hcall := KF.out (L.getD kk 0) hin.1 hin.2 wr HA.out
      clear hin
      generalize hy : L.getD kk 0 = y at c0 hcall
      have HY : Aside (L.getD kk 0 = y) := hy
      clear hy
      cases hq : f y with
      | true =>
        rw [hq] at hcall
        go_wp2_with fail
        refine hcall.mono ?_
        rintro e w' ⟨rfl, rfl⟩
        clear hcall
        go_wp2
        go_ret
        refine ⟨?_, rfl⟩
        rw [Plain.idxI_hit hkl (by rw [HY.out]; exact hq) A0.out]
        rfl
      | false =>
        rw [hq] at hcall
        go_wp2_with fail
        refine hcall.mono ?_
        rintro e w' ⟨rfl, rfl⟩
        clear hcall
        go_wp2
        go_roundg (m - (kk + 1))
        case measure => omega
        case rel =>
          refine ⟨kk + 1, by omega, by omega, by go_num, rfl, (show Aside _ from fun j hj => ?_)⟩
          by_cases e : j = kk
          · subst e
            rw [HY.out]; exact hq
          · exact A0.out j (by omega)
    · have hltz : ¬ (kk : Int) < (m : Int) := by omega
      have : kk = m := by omega
      subst this
      go_wp2
      go_ret
      refine ⟨?_, rfl⟩
      rw [Plain.idxI_miss (fun j hj => A0.out j (by have := HM.out; omega))]
      rfl
theorem containsP (p : Option Addr) (m c A n : Nat) (L : List Int) (w : World) (hn : n ≤ 8) (hm : L.length = m) (hbig : m ≤ 9223372036854775807) (hwf : ∀ x, x ∈ L → -9223372036854775808 ≤ x ∧ x ≤ 9223372036854775807) (ca : w.cell? ⟨A, 0, none⟩ = some (.int .i64 ((2 ^ n - 1 : Nat) : Int))) (hp : Nums w p L) :
    Calls Try.prog 20 #[.slice p m c, .func (.func 21) #[] #[.pointer (some ⟨A, 0, none⟩)]] w fun e w' => e = .returned (.bool (L.any (fun x => decide (x < 0 ∨ (2 : Int) ^ n ≤ x)))) ∧ w' = w := by
  rw [← Plain.idxI_any]
  have K := indexP_c p m c A n L w hn hm hbig hwf ca hp
  generalize Plain.idxI (fun x => decide (x < 0 ∨ (2 : Int) ^ n ≤ x)) L = r at K ⊢
  clear hn hm hbig hwf ca hp
  go_enter Try.func20, Try.ntmps20
  go_wp2_with fail
  refine K.mono ?_
  rintro e wx ⟨rfl, hx⟩
  have hy := hx.symm
  clear hx
  subst hy
  go_wp2
  go_ret
  exact ⟨rfl, rfl⟩
end Go.Proofs.Ytdcgkeanghhopak
