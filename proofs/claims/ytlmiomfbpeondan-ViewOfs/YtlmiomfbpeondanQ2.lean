/-
  frame: the literals; slices.ContainsFunc with them; areCounts, labelsMayBe, May.
-/
import Derived.Test.YtlmiomfbpeondanQ1
import Derived.Deep.QuietTactic
import Derived.BigQuiet
namespace Go.Proofs.Ytlmiomfbpeondan
open Go.RowKit Go.Shelf
namespace Plain
def idxI (p : Int → Bool) (l : List Int) : Int := if l.findIdx p < l.length then (l.findIdx p : Nat) else -1
theorem getD_ltI (l : List Int) (k : Nat) (hk : k < l.length) : l.getD k 0 = l[k] := by
  rw [List.getD_eq_getElem?_getD, List.getElem?_eq_getElem hk]; rfl
theorem idxI_hit {p : Int → Bool} {l : List Int} {k : Nat} (hk : k < l.length) (h : p (l.getD k 0) = true) (ha : ∀ j, j < k → p (l.getD j 0) = false) : idxI p l = k := by
  have e : l.findIdx p = k := by
    rw [List.findIdx_eq hk]
    rw [getD_ltI _ _ hk] at h
    refine ⟨h, fun j hj => ?_⟩
    have := ha j hj
    rw [getD_ltI _ _ (by omega)] at this
    exact this
  unfold idxI
  rw [e, if_pos hk]
theorem idxI_miss {p : Int → Bool} {l : List Int} (ha : ∀ j, j < l.length → p (l.getD j 0) = false) : idxI p l = -1 := by
  have e : l.findIdx p = l.length := List.findIdx_eq_length.2 fun x hx => by
    obtain ⟨j, hj, rfl⟩ := List.getElem_of_mem hx
    have := ha j hj
    rw [getD_ltI _ _ hj] at this
    exact this
  unfold idxI
  rw [e, if_neg (by omega)]
theorem idxI_any (p : Int → Bool) (l : List Int) : decide (0 ≤ idxI p l) = l.any p := by
  unfold idxI
  by_cases h : l.findIdx p < l.length
  · rw [if_pos h, List.any_eq_true.2 ⟨l[l.findIdx p], List.getElem_mem h, List.findIdx_getElem⟩]
    simp
  · rw [if_neg h]
    have : l.any p = false := by
      rw [List.any_eq_false]
      intro x hx hp
      exact h (List.findIdx_lt_length_of_exists ⟨x, hx, hp⟩)
    rw [this]
    rfl
/-- What is no count. -/
def ncB (x : Int) : Bool := !cntB x
/-- What is no label of n. -/
def nlB (n x : Int) : Bool := !labB n x
theorem any_nc (l : List Int) : (!l.any ncB) = l.all cntB := by
  induction l with
  | nil => rfl
  | cons x l ih => simp only [List.any_cons, List.all_cons, Bool.not_or, ih, ncB, Bool.not_not]
theorem any_nl (n : Int) (l : List Int) : (!l.any (nlB n)) = l.all (labB n) := by
  induction l with
  | nil => rfl
  | cons x l ih => simp only [List.any_cons, List.all_cons, Bool.not_or, ih, nlB, Bool.not_not]
end Plain
theorem count1_c (x : Int) (w : World) :
    Calls Try.prog 31 #[.int .i64 x] w fun e w' => e = .returned (.bool (Plain.ncB x)) ∧ Below w.heap.size w w' := by
  have K := within_c x 0 1048576 w
  have HR := hid (show Plain.ncB x = !Plain.inR x 0 1048576 from rfl)
  generalize Plain.inR x 0 1048576 = r at K HR
  go_enter Try.func31, Try.ntmps31
  go_wp2_with fail
  refine K.mono ?_
  rintro e w' ⟨rfl, hx⟩
  have hy := hx.symm
  clear hx K
  subst hy
  go_wp2
  go_ret
  exact ⟨by rw [HR.out]; rfl, Below.refl _ _⟩
set_option maxHeartbeats 1000000 in
theorem label1_c (x : Int) (T : Nat) (c : Plain.Cf) (lv mv : Value) (n : Nat) (hn : c.n = n) (h8 : n ≤ 8) (h1 : -9223372036854775808 ≤ x) (h2 : x ≤ 9223372036854775807) (w : World) (hc : CellC w T c lv mv) :
    Calls Try.prog 28 #[.int .i64 x, .pointer (some ⟨T, 0, none⟩)] w fun e w' => e = .returned (.bool (Plain.nlB c.n x)) ∧ Below w.heap.size w w' := by
  have K := everyone_c c lv mv n hn h8 w
  have HF := hid (fun W => flows_all x n h8 h1 h2 W)
  have HR := hid (show Plain.nlB c.n x = !Plain.labB n x by unfold Plain.nlB; rw [hn])
  generalize Plain.labB n x = r at HF HR
  generalize ((2 ^ n - 1 : Nat) : Int) = y at K HF
  obtain ⟨c0, c1, c2, c3, c4⟩ := hc
  clear h1 h2 h8 hn
  obtain ⟨cn, ls, ct, ms, cap⟩ := c
  go_enter Try.func28, Try.ntmps28
  go_wp2_with fail
  refine K.mono ?_
  rintro e w' ⟨rfl, hb⟩
  have HB := hid hb
  clear K hb c0 c1 c2 c3 c4
  have K := HF.out w'
  clear HF
  go_wp2_with fail
  refine K.mono ?_
  rintro e w2 ⟨rfl, hx⟩
  have hy := hx.symm
  clear hx K
  subst hy
  go_wp2
  go_ret
  exact ⟨by rw [HR.out]; rfl, HB.out⟩

set_option maxHeartbeats 2000000 in
theorem indexA  (b off n c : Nat) (l : List Int) (w : World)  (hn : l.length = n) (hbig : n ≤ 9223372036854775807) (hb : 0 < n → b < w.heap.size) (hc : ∀ j, j < n → w.cell? ⟨b, off + j, none⟩ = some (.int .i64 (l.getD j 0))) :
    Calls Try.prog 21 #[.slice (some ⟨b, off, none⟩) n c, .func (.func 31) #[] #[]] w fun e w' => e = .returned (.int .i64 (Plain.idxI (Plain.ncB) l)) ∧ Below w.heap.size w w' := by
  have HC := hid hc
  clear hc

  go_enter Try.func21, Try.ntmps21
  go_wp2
  go_loopg [5, 8] n (fun gg _ s8 wr => ∃ k : Nat, k ≤ n ∧ n - k ≤ gg ∧ s8 = .int .i64 k ∧ Aside (Below w.heap.size w wr) ∧ Aside (∀ j, j < k → Plain.ncB (l.getD j 0) = false))
  case atStart => exact ⟨0, Nat.zero_le _, by omega, rfl, Below.refl _ w, fun j hj => absurd hj (Nat.not_lt_zero _)⟩
  case round =>
    obtain ⟨k, hkk, hg, rfl, BW, A⟩ := hrel
    by_cases hlt : k < n
    · have hltz : (k : Int) < (n : Int) := by omega
      have c0 : wr.cell? ⟨b, off + k, none⟩ = some (.int .i64 (l.getD k 0)) := (BW.out.cell (p := ⟨b, off + k, none⟩) (hb (by omega))).trans (HC.out k hlt)
      have hcall := count1_c (l.getD k 0) wr
      generalize hy : l.getD k 0 = y at c0 hcall
      have HY : Aside (l.getD k 0 = y) := hy
      clear hy
      cases hq : Plain.ncB y with
      | true =>
        rw [hq] at hcall
        go_wp2_with fail
        refine hcall.mono ?_
        rintro e w' ⟨rfl, hb'⟩
        have HB' := hid (BW.out.trans (hb'.mono BW.out.size))
        clear hcall hb'
        go_wp2
        go_ret
        refine ⟨?_, HB'.out⟩
        rw [Plain.idxI_hit (by omega) (by rw [HY.out]; exact hq) A.out]
        rfl
      | false =>
        rw [hq] at hcall
        go_wp2_with fail
        refine hcall.mono ?_
        rintro e w' ⟨rfl, hb'⟩
        have HB' := hid (BW.out.trans (hb'.mono BW.out.size))
        clear hcall hb'
        go_wp2
        go_roundg (n - (k + 1))
        case measure => omega
        case rel =>
          refine ⟨k + 1, by omega, by omega, by go_num, HB'.out, (show Aside _ from fun j hj => ?_)⟩
          by_cases e : j = k
          · subst e
            rw [HY.out]; exact hq
          · exact A.out j (by omega)
    · have hltz : ¬ (k : Int) < (n : Int) := by omega
      have : k = n := by omega
      subst this
      go_wp2
      go_ret
      refine ⟨?_, BW.out⟩
      rw [Plain.idxI_miss (fun j hj => A.out j (by omega))]
      rfl

set_option maxHeartbeats 2000000 in
theorem indexL (T : Nat) (cf : Plain.Cf) (lv mv : Value) (m : Nat) (b off n c : Nat) (l : List Int) (w : World) (hm : cf.n = m) (h8 : m ≤ 8) (hr : ∀ x ∈ l, -9223372036854775808 ≤ x ∧ x ≤ 9223372036854775807) (hT : CellC w T cf lv mv) (hn : l.length = n) (hbig : n ≤ 9223372036854775807) (hb : 0 < n → b < w.heap.size) (hc : ∀ j, j < n → w.cell? ⟨b, off + j, none⟩ = some (.int .i64 (l.getD j 0))) :
    Calls Try.prog 21 #[.slice (some ⟨b, off, none⟩) n c, .func (.func 28) #[] #[.pointer (some ⟨T, 0, none⟩)]] w fun e w' => e = .returned (.int .i64 (Plain.idxI (Plain.nlB cf.n) l)) ∧ Below w.heap.size w w' := by
  have HC := hid hc
  clear hc
  have HT := hid hT
  have HRR := hid (fun j (hj : j < l.length) => hr (l.getD j 0) (by rw [Plain.getD_ltI _ _ hj]; exact List.getElem_mem hj))
  have HM := hid hm
  clear hT hr hm
  go_enter Try.func21, Try.ntmps21
  go_wp2
  go_loopg [5, 8] n (fun gg _ s8 wr => ∃ k : Nat, k ≤ n ∧ n - k ≤ gg ∧ s8 = .int .i64 k ∧ Aside (Below w.heap.size w wr) ∧ Aside (∀ j, j < k → Plain.nlB cf.n (l.getD j 0) = false))
  case atStart => exact ⟨0, Nat.zero_le _, by omega, rfl, Below.refl _ w, fun j hj => absurd hj (Nat.not_lt_zero _)⟩
  case round =>
    obtain ⟨k, hkk, hg, rfl, BW, A⟩ := hrel
    by_cases hlt : k < n
    · have hltz : (k : Int) < (n : Int) := by omega
      have c0 : wr.cell? ⟨b, off + k, none⟩ = some (.int .i64 (l.getD k 0)) := (BW.out.cell (p := ⟨b, off + k, none⟩) (hb (by omega))).trans (HC.out k hlt)
      have hcall := label1_c (l.getD k 0) T cf lv mv m HM.out h8 (HRR.out k (by omega)).1 (HRR.out k (by omega)).2 wr (HT.out.below BW.out HT.out.lt)
      generalize hy : l.getD k 0 = y at c0 hcall
      have HY : Aside (l.getD k 0 = y) := hy
      clear hy
      cases hq : Plain.nlB cf.n y with
      | true =>
        rw [hq] at hcall
        go_wp2_with fail
        refine hcall.mono ?_
        rintro e w' ⟨rfl, hb'⟩
        have HB' := hid (BW.out.trans (hb'.mono BW.out.size))
        clear hcall hb'
        go_wp2
        go_ret
        refine ⟨?_, HB'.out⟩
        rw [Plain.idxI_hit (by omega) (by rw [HY.out]; exact hq) A.out]
        rfl
      | false =>
        rw [hq] at hcall
        go_wp2_with fail
        refine hcall.mono ?_
        rintro e w' ⟨rfl, hb'⟩
        have HB' := hid (BW.out.trans (hb'.mono BW.out.size))
        clear hcall hb'
        go_wp2
        go_roundg (n - (k + 1))
        case measure => omega
        case rel =>
          refine ⟨k + 1, by omega, by omega, by go_num, HB'.out, (show Aside _ from fun j hj => ?_)⟩
          by_cases e : j = k
          · subst e
            rw [HY.out]; exact hq
          · exact A.out j (by omega)
    · have hltz : ¬ (k : Int) < (n : Int) := by omega
      have : k = n := by omega
      subst this
      go_wp2
      go_ret
      refine ⟨?_, BW.out⟩
      rw [Plain.idxI_miss (fun j hj => A.out j (by omega))]
      rfl

set_option maxHeartbeats 1000000 in
theorem index_nilI (p : Option Addr) (c : Nat) (f : Value) (w : World) :
    Calls Try.prog 21 #[.slice p 0 c, f] w fun e w' => e = .returned (.int .i64 (-1)) ∧ w' = w := by
  go_enter Try.func21, Try.ntmps21
  go_wp2
  refine wp_loop_rounds 1 ?_
  rw [rounds_succ]
  go_wp2
  go_ret
  exact ⟨rfl, rfl⟩

theorem containsA  (v : Value) (l : List Int) (w : World) (hbig : l.length ≤ 9223372036854775807) (hs : Seg w v l) (hl : Lies w.heap.size v) :
    Calls Try.prog 9 #[v, .func (.func 31) #[] #[]] w fun e w' => e = .returned (.bool (l.any (Plain.ncB))) ∧ Below w.heap.size w w' := by
  rw [← Plain.idxI_any]
  have K : Calls Try.prog 21 #[v, .func (.func 31) #[] #[]] w fun e w' => e = .returned (.int .i64 (Plain.idxI (Plain.ncB) l)) ∧ Below w.heap.size w w' := by
    rcases hs with ⟨rfl, q, c, rfl⟩ | ⟨b, off, c, rfl, hc⟩
    · exact (index_nilI q c _ w).mono fun e w' ⟨h1, h2⟩ => ⟨by rw [h1]; rfl, by rw [h2]; exact Below.refl _ _⟩
    · exact indexA b off l.length c l w rfl hbig (fun h => hl ⟨b, off, none⟩ _ _ rfl h) hc
  generalize Plain.idxI (Plain.ncB) l = r at K ⊢
  clear hs hl
  go_enter Try.func9, Try.ntmps9
  go_wp2_with fail
  refine K.mono ?_
  rintro e w' ⟨rfl, hb⟩
  go_wp2
  go_ret
  exact ⟨rfl, hb⟩

theorem containsL (T : Nat) (cf : Plain.Cf) (lv mv : Value) (m : Nat) (v : Value) (l : List Int) (w : World) (hbig : l.length ≤ 9223372036854775807) (hs : Seg w v l) (hl : Lies w.heap.size v) (hm : cf.n = m) (h8 : m ≤ 8) (hr : ∀ x ∈ l, -9223372036854775808 ≤ x ∧ x ≤ 9223372036854775807) (hT : CellC w T cf lv mv) :
    Calls Try.prog 9 #[v, .func (.func 28) #[] #[.pointer (some ⟨T, 0, none⟩)]] w fun e w' => e = .returned (.bool (l.any (Plain.nlB cf.n))) ∧ Below w.heap.size w w' := by
  rw [← Plain.idxI_any]
  have K : Calls Try.prog 21 #[v, .func (.func 28) #[] #[.pointer (some ⟨T, 0, none⟩)]] w fun e w' => e = .returned (.int .i64 (Plain.idxI (Plain.nlB cf.n) l)) ∧ Below w.heap.size w w' := by
    rcases hs with ⟨rfl, q, c, rfl⟩ | ⟨b, off, c, rfl, hc⟩
    · exact (index_nilI q c _ w).mono fun e w' ⟨h1, h2⟩ => ⟨by rw [h1]; rfl, by rw [h2]; exact Below.refl _ _⟩
    · exact indexL T cf lv mv m b off l.length c l w hm h8 hr hT rfl hbig (fun h => hl ⟨b, off, none⟩ _ _ rfl h) hc
  generalize Plain.idxI (Plain.nlB cf.n) l = r at K ⊢
  clear hs hl hT hr
  go_enter Try.func9, Try.ntmps9
  go_wp2_with fail
  refine K.mono ?_
  rintro e w' ⟨rfl, hb⟩
  go_wp2
  go_ret
  exact ⟨rfl, hb⟩

theorem counts_c (v : Value) (l : List Int) (w : World) (hbig : l.length ≤ 9223372036854775807) (hs : Seg w v l) (hl : Lies w.heap.size v) :
    Calls Try.prog 18 #[v] w fun e w' => e = .returned (.bool (l.all Plain.cntB)) ∧ Below w.heap.size w w' := by
  have K := containsA v l w hbig hs hl
  rw [← Plain.any_nc]
  generalize l.any Plain.ncB = r at K ⊢
  clear hs hl
  go_enter Try.func18, Try.ntmps18
  go_wp2_with fail
  refine K.mono ?_
  rintro e w' ⟨rfl, hb⟩
  go_wp2
  go_ret
  exact ⟨rfl, hb⟩

/-- A config that came in: the slices hold its labels and what is minted. -/
structure CfI (w : World) (c : Plain.Cf) (lv mv : Value) : Prop where
  sl : Seg w lv c.ls
  ll : Lies w.heap.size lv
  sm : Seg w mv c.ms
  lm : Lies w.heap.size mv
  rl : ∀ x ∈ c.ls, -9223372036854775808 ≤ x ∧ x ≤ 9223372036854775807
  bl : c.ls.length ≤ 9223372036854775807
  bm : c.ms.length ≤ 9223372036854775807
theorem CfI.grow {w w' : World} {c : Plain.Cf} {lv mv : Value} (h : CfI w c lv mv) (b : Below w.heap.size w w') : CfI w' c lv mv :=
  ⟨h.sl.below b h.ll, h.ll.mono b.size, h.sm.below b h.lm, h.lm.mono b.size, h.rl, h.bl, h.bm⟩
theorem seg_len {w : World} {v : Value} {l : List Int} (h : Seg w v l) : ∃ p c, v = .slice p l.length c := by
  rcases h with ⟨rfl, p, c, rfl⟩ | ⟨b, o, c, rfl, _⟩
  · exact ⟨p, c, rfl⟩
  · exact ⟨_, c, rfl⟩
set_option maxHeartbeats 1000000 in
theorem labels_ok (c : Plain.Cf) (lv mv : Value) (n : Nat) (hn : c.n = n) (h8 : n ≤ 8) (w : World) (hI : CfI w c lv mv) :
    Calls Try.prog 17 #[cfV c lv mv] w fun e w' => e = .returned (.bool (Plain.labsB c)) ∧ Below w.heap.size w w' := by
  have bA : Below w.heap.size w (w.alloc (boxC c lv mv)) := (Below.refl _ _).alloc (Nat.le_refl _) _
  have HB := hid bA
  have I := hI.grow bA
  have cc := CellC.start w c lv mv
  have K := containsL w.heap.size c lv mv n lv c.ls (w.alloc (boxC c lv mv)) I.bl I.sl I.ll hn h8 I.rl cc
  have HR := hid (show Plain.labsB c = (decide (c.ls.length ≤ 4) && !c.ls.any (Plain.nlB c.n)) by unfold Plain.labsB; rw [Plain.any_nl])
  generalize c.ls.any (Plain.nlB c.n) = r at K HR
  obtain ⟨lp, lc, rfl⟩ := seg_len hI.sl
  clear hI I cc bA hn h8
  obtain ⟨cn, ls, ct, ms, cap⟩ := c
  dsimp only at *
  by_cases h4 : (ls.length : Int) ≤ 4
  · go_enter Try.func17, Try.ntmps17
    go_wp2_with fail
    refine K.mono ?_
    rintro e w' ⟨rfl, hb⟩
    have HB' := hid hb
    clear K hb
    go_wp2
    go_ret
    refine ⟨?_, HB.out.trans (HB'.out.mono HB.out.size)⟩
    rw [HR.out, decide_eq_true (show ls.length ≤ 4 by omega)]
    rfl
  · clear K
    go_enter Try.func17, Try.ntmps17
    go_wp2
    go_ret
    refine ⟨?_, HB.out⟩
    rw [HR.out, decide_eq_false (show ¬ ls.length ≤ 4 by omega)]
    rfl
end Go.Proofs.Ytlmiomfbpeondan
