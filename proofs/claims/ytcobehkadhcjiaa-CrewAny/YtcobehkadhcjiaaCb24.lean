/-
  Goroutines among others: part 24 of what the law's own text rests on.
-/
import Derived.Test.YtcobehkadhcjiaaCb14
import Derived.Test.YtcobehkadhcjiaaCb15
import Derived.Test.YtcobehkadhcjiaaCb23
/-
  A contract of the document's answer to May.
-/
namespace Go.Proofs.Ytcobehkadhcjiaa
open Go.RowKit

namespace Plain
/-- The four numbers of an entry. -/
def nth (e : En) (j : Nat) : Int := [e.key, e.value, e.time, e.who].getD j 0
/-- The first k entries are as they may be. -/
def OkTo (l : List En) (k : Nat) : Prop := ∀ j, j < k → mayB (en l j) = true ∧ (0 < j → (en l (j - 1)).key < (en l j).key)
theorem ok_all {l : List En} (h8 : l.length ≤ 8) (h : OkTo l l.length) : mayL l = true := by
  unfold mayL
  have h1 : l.all mayB = true := by
    rw [List.all_eq_true]
    intro x hx
    obtain ⟨j, hj, rfl⟩ := List.getElem_of_mem hx
    have := (h j hj).1
    rwa [en_lt hj] at this
  have h2 : ascB l = true := (asc_at l).2 fun i hi => by
    have := (h (i + 1) hi).2 (by omega)
    simpa using this
  rw [h1, h2, decide_eq_true h8]
  rfl
theorem no_may {l : List En} {k : Nat} (hk : k < l.length) (h : mayB (en l k) = false) : mayL l = false := by
  unfold mayL
  have h1 : l.all mayB = false := by
    rw [List.all_eq_false]
    exact ⟨en l k, en_mem hk, by simp [h]⟩
  rw [h1]
  simp
theorem no_asc {l : List En} {k : Nat} (hk : k + 1 < l.length) (h : ¬ (en l k).key < (en l (k + 1)).key) : mayL l = false := by
  unfold mayL
  rw [asc_no hk h]
  simp
theorem nth_bad {e : En} {j : Nat} (hj : j < 4) (h : nth e j < 0 ∨ 1048576 < nth e j) : mayB e = false := by
  unfold mayB
  simp only [decide_eq_false_iff_not]
  match j, hj with
  | 0, _ => have : nth e 0 = e.key := rfl
            omega
  | 1, _ => have : nth e 1 = e.value := rfl
            omega
  | 2, _ => have : nth e 2 = e.time := rfl
            omega
  | 3, _ => have : nth e 3 = e.who := rfl
            omega
end Plain

theorem four_cell (w : World) (e : Plain.En) (j : Nat) (hj : j < 4) :
    (w.alloc (.cells #[.int .i64 e.key, .int .i64 e.value, .int .i64 e.time, .int .i64 e.who] 3)).cell? ⟨w.heap.size, j, none⟩ = some (.int .i64 (Plain.nth e j)) := by
  match j, hj with
  | 0, _ => simp [Plain.nth]
  | 1, _ => simp [Plain.nth]
  | 2, _ => simp [Plain.nth]
  | 3, _ => simp [Plain.nth]
theorem box_cell (w : World) (e : Plain.En) : CellN (w.alloc (boxE e)) w.heap.size 0 e := ⟨by simp, by simp, by simp, by simp, by simp⟩

set_option maxHeartbeats 4000000 in
set_option maxRecDepth 100000 in
theorem rmay_some (l : List Plain.En) (b off c : Nat) (h8 : l.length ≤ 8) (h0 : 0 < l.length) (w : World) (hb : b < w.heap.size) (hc : CellsN w b off l) :
    Calls Try.prog 32 #[.slice (some ⟨b, off, none⟩) l.length c] w fun e w' => e = .returned (.bool (Plain.mayL l)) ∧ Below w.heap.size w w' := by
  have HC := hid hc
  clear hc
  have h8' : ¬ 8 < (l.length : Int) := by omega
  go_enter Try.func32, Try.ntmps32
  go_wp2
  go_loopw [12] (fun i wx => ∃ k : Nat, k ≤ l.length ∧ i = .int .i64 k ∧ Below w.heap.size w wx ∧ Plain.OkTo l k) (fun i _ => l.length - (intOf i).toNat)
  case atStart => exact ⟨0, Nat.zero_le _, rfl, Below.refl _ _, fun j hj => absurd hj (Nat.not_lt_zero _)⟩
  case round =>
    obtain ⟨k, hk, rfl, hbel, hok⟩ := hrel
    have HB := hid hbel
    have HO := hid hok
    clear hbel hok
    by_cases hlt : k < l.length
    · have hlt' : (k : Int) < (l.length : Int) := by omega
      obtain ⟨c0, c1, c2, c3, c4⟩ := (HC.out k hlt).below HB.out hb
      have HN := hid (fun h => Plain.no_may (l := l) hlt h)
      generalize hy : Plain.en l k = y at c0 c1 c2 c3 c4 HN
      have HY := hid hy
      clear hy
      go_wp2
      obtain ⟨W, hW⟩ : ∃ W, W = (wr.alloc (boxE y)).alloc (.cells #[.int .i64 y.key, .int .i64 y.value, .int .i64 y.time, .int .i64 y.who] 3) := ⟨_, rfl⟩
      rw [← hW]
      have d0 := (box_cell wr y).below (B := wr.heap.size + 1) (w' := W) (by rw [hW]; exact (Below.refl _ _).alloc (by simp) _) (by omega)
      obtain ⟨d0, d1, d2, d3, d4⟩ := d0
      simp only [Nat.zero_add] at d1 d2 d3 d4
      have HF := hid (show ∀ j, j < 4 → W.cell? ⟨wr.heap.size + 1, j, none⟩ = some (.int .i64 (Plain.nth y j)) from fun j hj => by
        have := four_cell (wr.alloc (boxE y)) y j hj
        rw [← hW] at this
        simpa using this)
      have HBW := hid (show Below w.heap.size w W by rw [hW]; exact (HB.out.alloc HB.out.size _).alloc (by simpa using Nat.le_succ_of_le HB.out.size) _)
      clear hW c0 c1 c2 c3 c4
      go_loopw [27] (fun i wx => ∃ j : Nat, j ≤ 4 ∧ i = .int .i64 j ∧ wx = W ∧ ∀ t, t < j → 0 ≤ Plain.nth y t ∧ Plain.nth y t ≤ 1048576) (fun i _ => 4 - (intOf i).toNat)
      case atStart => exact ⟨0, by omega, rfl, rfl, fun t ht => by omega⟩
      case round =>
        obtain ⟨j, hj, rfl, hw, hn⟩ := hrel
        subst hw
        have HT := hid hn
        clear hn
        by_cases hj4 : j < 4
        · have hj4' : (j : Int) < 4 := by omega
          have f1 := HF.out j hj4
          have hbad := hid (Plain.nth_bad (e := y) hj4)
          generalize hz : Plain.nth y j = z at f1 hbad
          have HZ := hid hz
          clear hz
          by_cases hz1 : z < 0
          · go_wp2
            go_ret
            exact ⟨by rw [HN.out (hbad.out (.inl hz1))]; rfl, HBW.out⟩
          · by_cases hz2 : 1048576 < z
            · go_wp2
              go_ret
              exact ⟨by rw [HN.out (hbad.out (.inr hz2))]; rfl, HBW.out⟩
            · go_wp2
              go_roundw
              case rel =>
                refine ⟨j + 1, by omega, by go_num, by first | rfl | trivial, fun t ht => ?_⟩
                by_cases e : t = j
                · subst e; rw [HZ.out]; omega
                · exact HT.out t (by omega)
              case measure => simp [intOf]; omega
        · have ej : j = 4 := by omega
          subst ej
          have k0 : 0 ≤ y.key ∧ y.key ≤ 1048576 := HT.out 0 (by omega)
          have k1 : 0 ≤ y.value ∧ y.value ≤ 1048576 := HT.out 1 (by omega)
          have k2 : 0 ≤ y.time ∧ y.time ≤ 1048576 := HT.out 2 (by omega)
          have k3 : 0 ≤ y.who ∧ y.who ≤ 1048576 := HT.out 3 (by omega)
          have HM := hid (show (¬ 7 < y.who ∧ (y.gone = true → y.value = 0)) → Plain.mayB y = true from fun h => by
            unfold Plain.mayB; simp only [decide_eq_true_eq]; exact ⟨k0, k1, k2, ⟨k3.1, by omega⟩, h.2⟩)
          have HM1 := hid (show 7 < y.who → Plain.mayB y = false from fun h => by
            unfold Plain.mayB; simp only [decide_eq_false_iff_not]; omega)
          have HM2 := hid (show y.gone = true → y.value ≠ 0 → Plain.mayB y = false from fun h1 h2 => by
            unfold Plain.mayB; simp only [decide_eq_false_iff_not]; exact fun h => h2 (h.2.2.2.2 h1))
          clear k0 k1 k2 k3 HT HF
          obtain ⟨yk, yv, yt, yo, yg⟩ := y
          dsimp only at d0 d1 d2 d3 d4 HM HM1 HM2
          by_cases ho : 7 < yo
          · go_wp2
            go_quiet (fail)
            go_wp2
            go_ret
            exact ⟨by rw [HN.out (HM1.out ho)]; rfl, below_drewN HBW.out _⟩
          · have hod : decide (7 < yo) = false := decide_eq_false ho
            by_cases hg : yg = true ∧ yv ≠ 0
            · obtain ⟨rfl, hv⟩ := hg
              have bv : (yv != 0) = true := bne_iff_ne.2 hv
              go_wp2
              go_quiet (fail)
              go_wp2
              go_ret
              exact ⟨by rw [HN.out (HM2.out (by first | rfl | trivial) hv)]; rfl, below_drewN HBW.out _⟩
            · have HMY := hid (HM.out ⟨ho, fun h => Classical.byContradiction fun hv => hg ⟨h, hv⟩⟩)
              have hkk : k = 0 ∨ ∃ m, k = m + 1 := by cases k <;> simp
              have hyg : yg = false ∨ (yg = true ∧ yv = 0) := by
                cases yg with
                | false => exact .inl rfl
                | true => exact .inr ⟨rfl, Classical.byContradiction fun hv => hg ⟨rfl, hv⟩⟩
              clear hg HM HM1 HM2
              rcases hkk with rfl | ⟨m, rfl⟩
              · rcases hyg with rfl | ⟨rfl, rfl⟩
                all_goals
                  go_wp2
                  go_quiet (fail)
                  go_wp2
                  go_roundw
                  case rel => exact ⟨1, by omega, by go_num, below_drewN HBW.out _, fun j hj => by
                    obtain rfl : j = 0 := by omega
                    exact ⟨by rw [HY.out]; exact HMY.out, fun h => by omega⟩⟩
                  case measure => simp [intOf]; omega
              · have g1 := ((HC.out m (by omega)).below HBW.out hb).c0
                have HA := hid (fun h => Plain.no_asc (l := l) (k := m) hlt h)
                rw [HY.out] at HA
                generalize hx : (Plain.en l m).key = x at g1 HA
                have HX := hid hx
                clear hx
                have e1 : (((m + 1 : Nat) : Int)) = (m : Int) + 1 := by omega
                rw [e1] at hlt' ⊢
                clear e1
                have hm0 : decide ((0 : Int) < (m : Int) + 1) = true := decide_eq_true (by omega)
                have hm1 : (m : Int) < (l.length : Int) := by omega
                by_cases hxy : x < yk
                · have hd : decide (yk ≤ x) = false := decide_eq_false (by omega)
                  rcases hyg with rfl | ⟨rfl, rfl⟩
                  all_goals
                    go_wp2
                    go_quiet (fail)
                    go_wp2
                    go_roundw
                    case rel => exact ⟨m + 2, by omega, by go_num, below_drewN HBW.out _, fun j hj => by
                      by_cases e : j = m + 1
                      · subst e
                        exact ⟨by rw [HY.out]; exact HMY.out, fun _ => by rw [HY.out]; show (Plain.en l m).key < _; rw [HX.out]; exact hxy⟩
                      · exact HO.out j (by omega)⟩
                    case measure => simp [intOf]; omega
                · have hd : decide (yk ≤ x) = true := decide_eq_true (by omega)
                  rcases hyg with rfl | ⟨rfl, rfl⟩
                  all_goals
                    go_wp2
                    go_quiet (fail)
                    go_wp2
                    go_ret
                    exact ⟨by rw [HA.out hxy]; rfl, below_drewN HBW.out _⟩
    · have ek : k = l.length := by omega
      subst ek
      have HE := hid (Plain.ok_all h8 HO.out)
      go_wp2
      go_ret
      exact ⟨by rw [HE.out]; rfl, HB.out⟩

set_option maxHeartbeats 1000000 in
theorem rmay_nil (p : Option Addr) (c : Nat) (w : World) :
    Calls Try.prog 32 #[.slice p 0 c] w fun e w' => e = .returned (.bool true) ∧ w' = w := by
  go_enter Try.func32, Try.ntmps32
  go_wp2
  refine wp_loop_rounds 1 ?_
  rw [rounds_succ]
  go_wp2
  go_ret
  exact ⟨rfl, rfl⟩
set_option maxHeartbeats 1000000 in
theorem rmay_long (p : Option Addr) (n c : Nat) (h : 8 < n) (w : World) :
    Calls Try.prog 32 #[.slice p n c] w fun e w' => e = .returned (.bool false) ∧ w' = w := by
  have h8 : (8 : Int) < (n : Int) := by omega
  go_enter Try.func32, Try.ntmps32
  go_wp2
  go_ret
  exact ⟨rfl, rfl⟩

theorem rmay_any (v : Value) (l : List Plain.En) (w : World) (hs : SegN w v l) (hy : Lies w.heap.size v) :
    Calls Try.prog 32 #[v] w fun e w' => e = .returned (.bool (Plain.mayL l)) ∧ Below w.heap.size w w' := by
  by_cases h8 : l.length ≤ 8
  · by_cases h0 : 0 < l.length
    · obtain ⟨b, off, c, rfl, _, hc⟩ := hs.some h0
      exact rmay_some l b off c h8 h0 w (hy ⟨b, off, none⟩ _ _ rfl h0) hc
    · obtain rfl : l = [] := List.length_eq_zero_iff.1 (by omega)
      obtain ⟨p, c, rfl, _⟩ := hs.form
      exact (rmay_nil p c w).mono fun e w' ⟨h1, h2⟩ => ⟨by rw [h1]; rfl, by rw [h2]; exact Below.refl _ _⟩
  · obtain ⟨p, c, rfl, _⟩ := hs.form
    rw [Plain.may_long (by omega)]
    exact (rmay_long p l.length c (by omega) w).mono fun e w' ⟨h1, h2⟩ => ⟨h1, by rw [h2]; exact Below.refl _ _⟩
end Go.Proofs.Ytcobehkadhcjiaa

/-
  A contract of the document's answer to Newer.
-/
namespace Go.Proofs.Ytcobehkadhcjiaa
open Go.RowKit

set_option maxHeartbeats 1000000 in
theorem rnewer_c (a b : Plain.En) (w : World) :
    Calls Try.prog 67 #[aggE a, aggE b] w fun e w' => e = .returned (.bool (Plain.newer a b)) ∧ w' = (w.alloc (boxE a)).alloc (boxE b) := by
  obtain ⟨ak, av, ati, aw, ag⟩ := a
  obtain ⟨bk, bv, bt, bw, bg⟩ := b
  by_cases h1 : ati = bt
  · subst h1
    by_cases h2 : aw = bw
    · subst h2
      have e1 : Plain.newer ⟨ak, av, ati, aw, ag⟩ ⟨bk, bv, ati, aw, bg⟩ = if ag = bg then decide (bv < av) else bg := by simp [Plain.newer]
      rw [e1]
      cases ag <;> cases bg
      all_goals
        go_enter Try.func67, Try.ntmps67
        go_wp2
        go_ret
        exact ⟨rfl, rfl⟩
    · have e1 : Plain.newer ⟨ak, av, ati, aw, ag⟩ ⟨bk, bv, ati, bw, bg⟩ = decide (bw < aw) := by simp [Plain.newer, h2]
      rw [e1]
      have b1 : (aw != bw) = true := bne_iff_ne.2 h2
      go_enter Try.func67, Try.ntmps67
      go_wp2
      go_ret
      exact ⟨rfl, rfl⟩
  · have e1 : Plain.newer ⟨ak, av, ati, aw, ag⟩ ⟨bk, bv, bt, bw, bg⟩ = decide (bt < ati) := by simp [Plain.newer, h1]
    rw [e1]
    have b1 : (ati != bt) = true := bne_iff_ne.2 h1
    go_enter Try.func67, Try.ntmps67
    go_wp2
    go_ret
    exact ⟨rfl, rfl⟩

end Go.Proofs.Ytcobehkadhcjiaa

/-
  The document's Newer inside a region that draws its order.
-/
namespace Go.Proofs.Ytcobehkadhcjiaa
open Go.RowKit Go.Sort

theorem rnewer_g (a b : Plain.En) (w : World) :
    Calls Try.prog 67 #[aggE a, aggE b] w fun e w' => e = .returned (.bool (Plain.newer a b)) ∧ ∃ q os', w' = grow (w.drewN q) os' :=
  (rnewer_c a b w).mono fun _ _ ⟨h1, h2⟩ => ⟨h1, 0, _, h2.trans (two_grown _ _ _)⟩
theorem box_cellN (w : World) (e : Plain.En) : CellN (w.alloc (boxE e)) w.heap.size 0 e := ⟨by simp, by simp, by simp, by simp, by simp⟩
end Go.Proofs.Ytcobehkadhcjiaa

/-
  A contract of the document's answer to Merge.
-/
namespace Go.Proofs.Ytcobehkadhcjiaa
open Go.RowKit Go.Sort

namespace Plain
theorem drop_cons {l : List En} {i : Nat} (h : i < l.length) : l.drop i = en l i :: l.drop (i + 1) := by
  rw [List.drop_eq_getElem_cons h, en_lt h]
/-- What is merged so far: i of a, k of b. -/
def Mid (a b : List En) (i k : Nat) (O : List En) : Prop := O ++ mrg (a.drop i) (b.drop k) = mrg a b ∧ O.length ≤ i + k
theorem mid_start (a b : List En) : Mid a b 0 0 [] := ⟨rfl, by simp⟩
theorem mrg_nil (a : List En) : mrg a [] = a := by
  cases a with
  | nil => rw [mrg]
  | cons x a => rw [mrg]; simp
theorem mid_left {a b O : List En} {i k : Nat} (h : Mid a b i k O) (hi : i < a.length) (hk : k = b.length ∨ (k < b.length ∧ (en a i).key < (en b k).key)) : Mid a b (i + 1) k (O ++ [en a i]) := by
  refine ⟨?_, by have := h.2; simp; omega⟩
  rw [← h.1, List.append_assoc, drop_cons hi]
  congr 1
  rcases hk with rfl | ⟨hk, hlt⟩
  · rw [List.drop_length, mrg_nil, mrg_nil]; rfl
  · rw [drop_cons hk, mrg, if_pos hlt]; rfl
theorem mid_right {a b O : List En} {i k : Nat} (h : Mid a b i k O) (hk : k < b.length) (hi : i = a.length ∨ (i < a.length ∧ (en b k).key < (en a i).key)) : Mid a b i (k + 1) (O ++ [en b k]) := by
  refine ⟨?_, by have := h.2; simp; omega⟩
  rw [← h.1, List.append_assoc, drop_cons hk]
  congr 1
  rcases hi with rfl | ⟨hi, hlt⟩
  · rw [List.drop_length, mrg, mrg]; rfl
  · rw [drop_cons hi, mrg, if_neg (by omega), if_pos hlt]; rfl
theorem mid_both {a b O : List En} {i k : Nat} (h : Mid a b i k O) (hi : i < a.length) (hk : k < b.length) (he : (en a i).key = (en b k).key) : Mid a b (i + 1) (k + 1) (O ++ [top (en a i) (en b k)]) := by
  refine ⟨?_, by have := h.2; simp; omega⟩
  rw [← h.1, List.append_assoc, drop_cons hi, drop_cons hk]
  congr 1
  rw [mrg, if_neg (by omega), if_neg (by omega)]; rfl
theorem mid_end {a b O : List En} (h : Mid a b a.length b.length O) : O = mrg a b := by
  have := h.1
  rw [List.drop_length, List.drop_length] at this
  rw [← this, mrg]
  simp
end Plain

set_option maxRecDepth 100000 in
/-- append of one entry that has just been laid. -/
theorem app_one {w : World} {B : Nat} {v : Value} {l : List Plain.En} (y : Plain.En) (hl : l.length ≤ 100) (hB : B ≤ w.heap.size) (h : OwnN w B 41 v l) :
    ∃ v' w', (Builtin.append_ #[30, 30] 30 #[v, .slice (some ⟨w.heap.size, 0, none⟩) 1 1]).run Try.prog (w.alloc (boxE y)) = .ok v' w' ∧ OwnN w' B 41 v' (l ++ [y]) ∧ Below B w w' := by
  obtain ⟨i0, hi, hz0, hz1, hz2⟩ := info_parts Try.infoEntry
  have hg := h.grow ((Below.refl _ _).alloc (Nat.le_refl _) (boxE y))
  obtain ⟨v', w', a1, a2, a3, _⟩ := run_append_own (P := Try.prog) (w.alloc (boxE y)) B 30 30 41 i0 _ 5 40 Try.underlying30 hi hz0 hz1 hz2 rfl (by decide) v l.length (evals l) hg ⟨w.heap.size, 0, none⟩ 1 1 (encE y) rfl (fun j u hj => by
    rw [add_zero_at]
    have hb : (w.alloc (boxE y)).heap[w.heap.size]? = some (boxE y) := Deep.blk_alloc_new w _
    simp only [World.cell?, hb]
    match j, hj with
    | 0, hj => injection hj with hj; subst hj; rfl
    | 1, hj => injection hj with hj; subst hj; rfl
    | 2, hj => injection hj with hj; subst hj; rfl
    | 3, hj => injection hj with hj; subst hj; rfl
    | 4, hj => injection hj with hj; subst hj; rfl) (encE_one y) (by unfold maxLen; omega) (by omega) (by simp; omega)
  refine ⟨v', w', a1, ?_, ?_⟩
  · unfold OwnN
    rw [evals_app, List.length_append]
    have e : evals [y] = encE y := by rw [evals_cons]; simp [evals]
    rw [e]
    exact a2
  · refine ((Below.refl _ _).alloc hB _).grown a3 (by simp; omega) fun j hj => ?_
    rcases h.2 with ⟨e, _⟩ | ⟨g, cap, cur, e, hg, _⟩
    · rw [e] at hj; simp [Value.ownBlock] at hj
    · rw [e] at hj; simp [Value.ownBlock] at hj; omega

theorem OwnN.drewN {w : World} {B T : Nat} {v : Value} {l : List Plain.En} (h : OwnN w B T v l) (q : Nat) : OwnN (w.drewN q) B T v l := h.grow (below_drewN (Below.refl _ _) q)
theorem CellN.drewN {w : World} {b o : Nat} {e : Plain.En} (h : CellN w b o e) (q : Nat) : CellN (w.drewN q) b o e := ⟨by simpa using h.c0, by simpa using h.c1, by simpa using h.c2, by simpa using h.c3, by simpa using h.c4⟩

/-- A store into another block leaves the row as it is. -/
theorem OwnN.over {w : World} {B T bx : Nat} {v : Value} {l : List Plain.En} (h : OwnN w B T v l) (hne : ∀ g n c, v = .slice (some ⟨g, 0, none⟩) n c → g ≠ bx) (o : Nat) (y : Plain.En) : OwnN (setE w bx o y) B T v l := by
  refine ⟨h.1, ?_⟩
  rcases h.2 with h0 | ⟨g, cap, cur, e, hB, hb, h3⟩
  · exact .inl h0
  · have hn := hne g _ _ e
    refine .inr ⟨g, cap, cur, e, hB, ?_, h3⟩
    unfold setE
    rw [Below.heap_setCell _ _ _ _ hn, Below.heap_setCell _ _ _ _ hn, Below.heap_setCell _ _ _ _ hn, Below.heap_setCell _ _ _ _ hn, Below.heap_setCell _ _ _ _ hn]
    exact hb
theorem setE_size' (w : World) (g o : Nat) (y : Plain.En) : (setE w g o y).heap.size = w.heap.size := by simp [setE, World.setCell]

/-- What lies in memory on the way. -/
structure MgI (a b : List Plain.En) (pa pb : Option Addr) (i k : Nat) (w wx : World) (vo : Value) (O : List Plain.En) : Prop where
  mid : Plain.Mid a b i k O
  own : OwnN wx w.heap.size 41 vo O
  bel : Below w.heap.size w wx
  aa : i < a.length → ∃ g o, pa = some ⟨g, o, none⟩ ∧ g < w.heap.size ∧ CellN wx g (o + i * 5) (Plain.en a i)
  bb : k < b.length → ∃ g o, pb = some ⟨g, o, none⟩ ∧ g < w.heap.size ∧ CellN wx g (o + k * 5) (Plain.en b k)

set_option maxHeartbeats 8000000 in
set_option maxRecDepth 100000 in
theorem rmerge_walk (pa pb : Option Addr) (ca cb : Nat) (a b : List Plain.En) (ha : Plain.mayL a = true) (hb : Plain.mayL b = true) (w : World)
    (sa : SegN w (.slice pa a.length ca) a) (ya : Lies w.heap.size (.slice pa a.length ca)) (sb : SegN w (.slice pb b.length cb) b) (yb : Lies w.heap.size (.slice pb b.length cb)) :
    Calls Try.prog 33 #[.slice pa a.length ca, .slice pb b.length cb] w fun e w' =>
      ∃ r, e = .returned (.tuple #[r, .int .i64 (Plain.mergeE a b : Nat)]) ∧ SegN w' r (Plain.mergeR a b) ∧ Lies w'.heap.size r ∧ Below w.heap.size w w' := by
  obtain ⟨a8, _, asrt⟩ := (Plain.may_iff a).1 ha
  obtain ⟨b8, _, bsrt⟩ := (Plain.may_iff b).1 hb
  have K1 := rmay_any _ a w sa ya
  have K2 := fun w1 (b1 : Below w.heap.size w w1) => rmay_any _ b w1 (sb.below b1 yb) (yb.mono b1.size)
  have HE := hid (show Plain.mergeE a b = if (Plain.mrg a b).length ≤ 8 then 0 else 8 by unfold Plain.mergeE; rw [if_pos ⟨ha, hb⟩, Plain.mrg_merge asrt bsrt])
  have HM := hid (Plain.mrg_merge asrt bsrt)
  have HI := hid (show ∀ i k wx vo O, Plain.Mid a b i k O → OwnN wx w.heap.size 41 vo O → Below w.heap.size w wx → MgI a b pa pb i k w wx vo O from fun i k wx vo O h1 h2 h3 => ⟨h1, h2, h3, fun hi => by
      obtain ⟨p, cap, e, h4⟩ := sa.form
      obtain ⟨g, o, rfl, _, hc⟩ := h4 (by omega)
      injection e with e1 _ _
      subst e1
      have hg := ya ⟨g, o, none⟩ _ _ rfl (by omega)
      exact ⟨g, o, rfl, hg, (hc i hi).below h3 hg⟩, fun hk => by
      obtain ⟨p, cap, e, h4⟩ := sb.form
      obtain ⟨g, o, rfl, _, hc⟩ := h4 (by omega)
      injection e with e1 _ _
      subst e1
      have hg := yb ⟨g, o, none⟩ _ _ rfl (by omega)
      exact ⟨g, o, rfl, hg, (hc k hk).below h3 hg⟩⟩)
  rw [ha] at K1
  rw [hb] at K2
  clear sa sb ya yb ha hb asrt bsrt
  generalize hna : a.length = na at K1 a8 ⊢
  generalize hnb : b.length = nb at K2 b8 ⊢
  have HA := hid hna
  have HB := hid hnb
  clear hna hnb
  go_enter Try.func33, Try.ntmps33
  go_wp2_with fail
  refine K1.mono ?_
  rintro e w1 ⟨rfl, b1⟩
  go_wp2_with fail
  refine (K2 w1 b1).mono ?_
  rintro e w2 ⟨rfl, b2⟩
  have B2 := hid (b1.trans (b2.mono b1.size))
  clear b1 b2 K1 K2
  go_wp2
  go_loopw [6, 7, 8] (fun vo si sk wx => ∃ (i k : Nat) (O : List Plain.En), si = .int .i64 i ∧ sk = .int .i64 k ∧ i ≤ na ∧ k ≤ nb ∧ MgI a b pa pb i k w wx vo O) (fun _ si sk _ => na + nb - ((intOf si).toNat + (intOf sk).toNat))
  case atStart => exact ⟨0, 0, [], rfl, rfl, Nat.zero_le _, Nat.zero_le _, HI.out _ _ _ _ _ (Plain.mid_start a b) (OwnN.nil _ _ _) B2.out⟩
  case round =>
    obtain ⟨i, k, O, rfl, rfl, hi, hk, hMI⟩ := hrel
    have HMI := hid hMI
    have hO16 : O.length ≤ 16 := by have := hMI.mid.2; omega
    have hsz := hMI.bel.size
    clear hMI
    have mixed : Try.prog.follows .mixedOrders = true := by kernel_rfl
    by_cases hin : i < na
    · have hin' : (i : Int) < (na : Int) := by omega
      obtain ⟨ga, oa, rfl, hga, hca⟩ := HMI.out.aa (by rw [HA.out]; exact hin)
      have HCA := hid hca
      clear hca
      by_cases hkn : k < nb
      · have hkn' : (k : Int) < (nb : Int) := by omega
        have hke : ((k : Int) == (nb : Int)) = false := beq_eq_false_iff_ne.2 (by omega)
        have hie : ((i : Int) == (na : Int)) = false := beq_eq_false_iff_ne.2 (by omega)
        have hid1 : decide ((i : Int) < (na : Int)) = true := decide_eq_true hin'
        obtain ⟨gb, ob, rfl, hgb, hcb⟩ := HMI.out.bb (by rw [HB.out]; exact hkn)
        have HCB := hid hcb
        clear hcb
        have HML := hid (Plain.mid_left HMI.out.mid (by rw [HA.out]; exact hin))
        have HMR := hid (Plain.mid_right HMI.out.mid (by rw [HB.out]; exact hkn))
        have HMB := hid (Plain.mid_both HMI.out.mid (by rw [HA.out]; exact hin) (by rw [HB.out]; exact hkn))
        have hAB : i < a.length ∧ k < b.length := ⟨by rw [HA.out]; exact hin, by rw [HB.out]; exact hkn⟩
        have HAB := hid hAB
        clear hAB
        generalize Plain.en a i = x at HML HMR HMB HCA
        generalize Plain.en b k = y at HML HMR HMB HCB
        have x0 := HCA.out.c0
        have y0 := HCB.out.c0
        by_cases h1 : x.key < y.key
        · have hd1 : decide (x.key < y.key) = true := decide_eq_true h1
          have HL := hid (HML.out (.inr ⟨HAB.out.2, h1⟩))
          clear HML HMR HMB
          go_wp2
          go_quiet (fail)
          obtain ⟨wq, hwq⟩ : ∃ wq, wq = wr.drewN nq := ⟨_, rfl⟩
          rw [← hwq]
          clear x0 y0
          obtain ⟨x0, x1, x2, x3, x4⟩ := (show CellN wq ga (oa + i * 5) x by rw [hwq]; exact HCA.out.drewN nq)
          obtain ⟨v', w', hrun, o', b'⟩ := app_one (w := wq) x (by omega) (by rw [hwq]; exact hsz) (show OwnN wq w.heap.size 41 u6 O by rw [hwq]; exact HMI.out.own.drewN nq)
          have RUN := hid hrun
          have R := hid (HI.out (i + 1) k w' v' _ HL.out o' ((show Below w.heap.size w wq by rw [hwq]; exact below_drewN HMI.out.bel nq).trans b'))
          clear hrun o' b' hwq
          go_wp2_with (first | (at_builtin; refine wpList_app _ _ 30 RUN.out (by rfl) (by rfl) (by rfl) (by rfl) (by rfl) ?_) | fail)
          go_roundw
          case rel => exact ⟨i + 1, k, _, by go_num, rfl, by omega, by omega, R.out⟩
          case measure => simp [intOf]; omega
        · have hd1 : decide (x.key < y.key) = false := decide_eq_false h1
          by_cases h2 : y.key < x.key
          · have hd2 : decide (y.key < x.key) = true := decide_eq_true h2
            have HL := hid (HMR.out (.inr ⟨HAB.out.1, h2⟩))
            clear HML HMR HMB
            go_wp2
            go_quiet (fail)
            obtain ⟨wp, hwp⟩ : ∃ wp, wp = wr.drewN nq := ⟨_, rfl⟩
            rw [← hwp]
            clear x0 y0
            have x0 := (show CellN wp ga (oa + i * 5) x by rw [hwp]; exact HCA.out.drewN _).c0
            have y0 := (show CellN wp gb (ob + k * 5) y by rw [hwp]; exact HCB.out.drewN _).c0
            have HWP := hid hwp
            clear hwp
            go_wp2
            go_quiet (fail)
            obtain ⟨wq, hwq⟩ : ∃ wq, wq = wp.drewN nq := ⟨_, rfl⟩
            rw [← hwq]
            have HQ := hid (show wq = wr.drewN _ by rw [hwq, HWP.out, World.drewN_drewN])
            clear hwq HWP x0 y0
            obtain ⟨y0, y1, y2, y3, y4⟩ := (show CellN wq gb (ob + k * 5) y by rw [HQ.out]; exact HCB.out.drewN _)
            obtain ⟨v', w', hrun, o', b'⟩ := app_one (w := wq) y (by omega) (by rw [HQ.out]; exact hsz) (show OwnN wq w.heap.size 41 u6 O by rw [HQ.out]; exact HMI.out.own.drewN _)
            have RUN := hid hrun
            have R := hid (HI.out i (k + 1) w' v' _ HL.out o' ((show Below w.heap.size w wq by rw [HQ.out]; exact below_drewN HMI.out.bel _).trans b'))
            clear hrun o' b'
            go_wp2_with (first | (at_builtin; refine wpList_app _ _ 30 RUN.out (by rfl) (by rfl) (by rfl) (by rfl) (by rfl) ?_) | fail)
            go_roundw
            case rel => exact ⟨i, k + 1, _, rfl, by go_num, by omega, by omega, R.out⟩
            case measure => simp [intOf]; omega
          · have hd2 : decide (y.key < x.key) = false := decide_eq_false h2
            have HL := hid (HMB.out (by omega))
            clear HML HMR HMB
            go_wp2
            go_quiet (fail)
            obtain ⟨wp, hwp⟩ : ∃ wp, wp = wr.drewN nq := ⟨_, rfl⟩
            rw [← hwp]
            clear x0 y0
            have x0 := (show CellN wp ga (oa + i * 5) x by rw [hwp]; exact HCA.out.drewN _).c0
            have y0 := (show CellN wp gb (ob + k * 5) y by rw [hwp]; exact HCB.out.drewN _).c0
            have HWP := hid hwp
            clear hwp
            go_wp2
            go_quiet (fail)
            obtain ⟨wq, hwq⟩ : ∃ wq, wq = wp.drewN nq := ⟨_, rfl⟩
            rw [← hwq]
            have HQ := hid (show wq = wr.drewN _ by rw [hwq, HWP.out, World.drewN_drewN])
            clear hwq HWP x0 y0
            have CX := hid (show CellN wq ga (oa + i * 5) x by rw [HQ.out]; exact HCA.out.drewN _)
            have CY := hid (show CellN wq gb (ob + k * 5) y by rw [HQ.out]; exact HCB.out.drewN _)
            have CO := hid (show OwnN wq w.heap.size 41 u6 O by rw [HQ.out]; exact HMI.out.own.drewN _)
            have CB := hid (show Below w.heap.size w wq by rw [HQ.out]; exact below_drewN HMI.out.bel _)
            clear HQ HCA HCB HMI hd1 hd2 h1 h2 hke hie hid1
            obtain ⟨x0, x1, x2, x3, x4⟩ := CX.out
            have KA := fun W => rnewer_g y x W
            have HT : Plain.top x y = if Plain.newer y x = true then y else x := rfl
            rw [HT] at HL
            clear HT
            generalize Plain.newer y x = r at KA HL
            have hNG := hid (show ∀ g n c, u6 = .slice (some ⟨g, 0, none⟩) n c → g ≠ wq.heap.size from fun g n c e hgg => by
              subst e
              rcases CO.out.2 with ⟨e, _⟩ | ⟨g', cap, cur, e, _, hb, _⟩
              · cases e
              · simp only [Value.slice.injEq, Option.some.injEq, Addr.mk.injEq, and_true] at e
                obtain ⟨rfl, _, _⟩ := e
                have := (Array.getElem?_eq_some_iff.1 hb).1
                omega)
            go_wp2
            obtain ⟨w4, hw4⟩ : ∃ w4, w4 = wq.alloc (boxE x) := ⟨_, rfl⟩
            rw [← hw4]
            have BX := hid (show CellN w4 wq.heap.size 0 x by rw [hw4]; exact box_cellN wq x)
            have hbx : w4.heap[wq.heap.size]? = some (boxE x) := by rw [hw4]; exact Deep.blk_alloc_new wq _
            have BXB := hid hbx
            have bl4 : Below wq.heap.size wq w4 := by rw [hw4]; exact (Below.refl _ _).alloc (Nat.le_refl _) _
            have CY4 := hid (CY.out.below bl4 CY.out.lt)
            have CO4 := hid (CO.out.grow bl4)
            have CB4 := hid (CB.out.trans (bl4.mono CB.out.size))
            have hw4s : wq.heap.size < w4.heap.size := (Array.getElem?_eq_some_iff.1 hbx).1
            have hwb := CB.out.size
            clear hw4 hbx bl4 CX CY CO CB x0 x1 x2 x3 x4
            generalize hbx : wq.heap.size = bx at BX BXB hNG hw4s hwb ⊢
            have p0 := fun n os => (BX.out.grown n os).c0
            have p1 := fun n os => (BX.out.grown n os).c1
            have p2 := fun n os => (BX.out.grown n os).c2
            have p3 := fun n os => (BX.out.grown n os).c3
            have p4 := fun n os => (BX.out.grown n os).c4
            have q0 := fun n os => (CY4.out.grown n os).c0
            have q1 := fun n os => (CY4.out.grown n os).c1
            have q2 := fun n os => (CY4.out.grown n os).c2
            have q3 := fun n os => (CY4.out.grown n os).c3
            have q4 := fun n os => (CY4.out.grown n os).c4
            simp only [Nat.zero_add] at p1 p2 p3 p4
            clear hbx
            go_quiet_grown (first | (go_at_call 67; exact Calls.grown_of (KA _)) | fail)
            obtain ⟨w5, hw5⟩ : ∃ w5, w5 = grow (w4.drewN nq) osq := ⟨_, rfl⟩
            rw [← hw5]
            have bl5 : Below w4.heap.size w4 w5 := by rw [hw5]; exact below_grow (Below.refl w4.heap.size w4) (Nat.le_refl _) nq osq
            have BX5 := hid (BX.out.below bl5 hw4s)
            have BXB5 := hid ((bl5.block bx hw4s).trans BXB.out)
            have CY5 := hid (CY4.out.below bl5 CY4.out.lt)
            have CO5 := hid (CO4.out.grow bl5)
            have CB5 := hid (CB4.out.trans (bl5.mono CB4.out.size))
            clear hw5 bl5 p0 p1 p2 p3 p4 q0 q1 q2 q3 q4 KA BX BXB CY4 CO4 CB4
            cases r with
            | false =>
              simp only [Bool.false_eq_true, if_false] at HL
              obtain ⟨x0, x1, x2, x3, x4⟩ := BX5.out
              simp only [Nat.zero_add] at x1 x2 x3 x4
              obtain ⟨v', w', hrun, o', b'⟩ := app_one (w := w5) x (by omega) CB5.out.size CO5.out
              have RUN := hid hrun
              have R := hid (HI.out (i + 1) (k + 1) w' v' _ HL.out o' (CB5.out.trans b'))
              clear hrun o' b'
              go_wp2_with (first | (at_builtin; refine wpList_app _ _ 30 RUN.out (by rfl) (by rfl) (by rfl) (by rfl) (by rfl) ?_) | fail)
              go_roundw
              case rel => exact ⟨i + 1, k + 1, _, by go_num, by go_num, by omega, by omega, R.out⟩
              case measure => simp [intOf]; omega
            | true =>
              simp only [if_true] at HL
              obtain ⟨x0, x1, x2, x3, x4⟩ := BX5.out
              simp only [Nat.zero_add] at x1 x2 x3 x4
              obtain ⟨y0, y1, y2, y3, y4⟩ := CY5.out
              have f0 : w5.frozen? ⟨bx, 0, none⟩ = false := by simp [World.frozen?, BXB5.out]
              have f1 : w5.frozen? ⟨bx, 1, none⟩ = false := by simp [World.frozen?, BXB5.out]
              have f2 : w5.frozen? ⟨bx, 2, none⟩ = false := by simp [World.frozen?, BXB5.out]
              have f3 : w5.frozen? ⟨bx, 3, none⟩ = false := by simp [World.frozen?, BXB5.out]
              have f4 : w5.frozen? ⟨bx, 4, none⟩ = false := by simp [World.frozen?, BXB5.out]
              obtain ⟨v', w', hrun, o', b'⟩ := app_one (w := setE w5 bx 0 y) y (by omega) (by rw [setE_size']; exact CB5.out.size) (CO5.out.over hNG.out 0 y)
              rw [setE_size'] at hrun
              have RUN := hid hrun
              have R := hid (HI.out (i + 1) (k + 1) w' v' _ HL.out o' ((below_setE CB5.out hwb y).trans b'))
              clear hrun o' b'
              go_wp2_with (first | (at_builtin; refine wpList_app _ _ 30 RUN.out (by rfl) (by rfl) (by rfl) (by rfl) (by rfl) ?_) | fail)
              go_roundw
              case rel => exact ⟨i + 1, k + 1, _, by go_num, by go_num, by omega, by omega, R.out⟩
              case measure => simp [intOf]; omega
      · have ek : k = nb := by omega
        subst ek
        obtain ⟨x0, x1, x2, x3, x4⟩ := HCA.out
        have HL := hid (Plain.mid_left HMI.out.mid (by rw [HA.out]; exact hin) (.inl HB.out.symm))
        generalize Plain.en a i = y at x0 x1 x2 x3 x4 HL HCA
        go_wp2
        go_quiet (fail)
        obtain ⟨wq, hwq⟩ : ∃ wq, wq = wr.drewN nq := ⟨_, rfl⟩
        rw [← hwq]
        obtain ⟨x0, x1, x2, x3, x4⟩ := (show CellN wq ga (oa + i * 5) y by rw [hwq]; exact HCA.out.drewN nq)
        obtain ⟨v', w', hrun, o', b'⟩ := app_one (w := wq) y (by omega) (by rw [hwq]; exact hsz) (show OwnN wq w.heap.size 41 u6 O by rw [hwq]; exact HMI.out.own.drewN nq)
        have RUN := hid hrun
        have R := hid (HI.out (i + 1) k w' v' _ HL.out o' ((show Below w.heap.size w wq by rw [hwq]; exact below_drewN HMI.out.bel nq).trans b'))
        clear hrun o' b' hwq
        go_wp2_with (first | (at_builtin; refine wpList_app _ _ 30 RUN.out (by rfl) (by rfl) (by rfl) (by rfl) (by rfl) ?_) | fail)
        go_roundw
        case rel => exact ⟨i + 1, k, _, by go_num, rfl, by omega, by omega, R.out⟩
        case measure => simp [intOf]; omega
    · have ei : i = na := by omega
      subst ei
      by_cases hkn : k < nb
      · have hkn' : (k : Int) < (nb : Int) := by omega
        have hke : ((k : Int) == (nb : Int)) = false := beq_eq_false_iff_ne.2 (by omega)
        have hid1 : decide ((i : Int) < (i : Int)) = false := decide_eq_false (by omega)
        obtain ⟨gb, ob, rfl, hgb, hcb⟩ := HMI.out.bb (by rw [HB.out]; exact hkn)
        have HCB := hid hcb
        clear hcb
        have HL := hid (Plain.mid_right HMI.out.mid (by rw [HB.out]; exact hkn) (.inl HA.out.symm))
        generalize Plain.en b k = y at HL HCB
        go_wp2
        go_quiet (fail)
        obtain ⟨wp, hwp⟩ : ∃ wp, wp = wr.drewN nq := ⟨_, rfl⟩
        rw [← hwp]
        go_wp2
        go_quiet (fail)
        obtain ⟨wq, hwq⟩ : ∃ wq, wq = wp.drewN nq := ⟨_, rfl⟩
        rw [← hwq]
        have HQ := hid (show wq = wr.drewN _ by rw [hwq, hwp, World.drewN_drewN])
        clear hwq hwp
        obtain ⟨x0, x1, x2, x3, x4⟩ := (show CellN wq gb (ob + k * 5) y by rw [HQ.out]; exact HCB.out.drewN _)
        obtain ⟨v', w', hrun, o', b'⟩ := app_one (w := wq) y (by omega) (by rw [HQ.out]; exact hsz) (show OwnN wq w.heap.size 41 u6 O by rw [HQ.out]; exact HMI.out.own.drewN _)
        have RUN := hid hrun
        have R := hid (HI.out i (k + 1) w' v' _ HL.out o' ((show Below w.heap.size w wq by rw [HQ.out]; exact below_drewN HMI.out.bel _).trans b'))
        clear hrun o' b'
        go_wp2_with (first | (at_builtin; refine wpList_app _ _ 30 RUN.out (by rfl) (by rfl) (by rfl) (by rfl) (by rfl) ?_) | fail)
        go_roundw
        case rel => exact ⟨i, k + 1, _, rfl, by go_num, by omega, by omega, R.out⟩
        case measure => simp [intOf]; omega
      · have ek : k = nb := by omega
        subst ek
        have HO := hid (show OwnN wr w.heap.size 41 u6 (Plain.mrg a b) by
          have h1 := HMI.out.mid
          rw [← HA.out, ← HB.out] at h1
          rw [← Plain.mid_end h1]
          exact HMI.out.own)
        have HBE := hid HMI.out.bel
        obtain ⟨p, cc, rfl⟩ := HO.out.form
        clear HMI HI
        by_cases h8 : (Plain.mrg a b).length ≤ 8
        · have HR := hid (show Plain.mergeE a b = 0 by rw [HE.out, if_pos h8])
          have HR2 := hid (show Plain.mergeR a b = Plain.mrg a b by unfold Plain.mergeR; rw [if_pos HR.out, HM.out])
          generalize Plain.mrg a b = M at h8 HO HR2
          have h8' : ¬ 8 < (M.length : Int) := by omega
          clear HE HM
          go_wp2
          go_ret2
          exact ⟨_, by rw [HR.out]; rfl, by rw [HR2.out]; exact HO.out.seg.1, HO.out.seg.2, HBE.out⟩
        · have HR := hid (show Plain.mergeE a b = 8 by rw [HE.out, if_neg h8])
          have HR2 := hid (show Plain.mergeR a b = [] by unfold Plain.mergeR; rw [HR.out]; rfl)
          generalize Plain.mrg a b = M at h8 HO
          have h8' : 8 < (M.length : Int) := by omega
          clear HE HM
          go_wp2
          go_ret2
          exact ⟨_, by rw [HR.out]; rfl, by rw [HR2.out]; exact SegN.nil _, lies_nil _ _ _, HBE.out⟩

set_option maxHeartbeats 1000000 in
theorem rmerge_bad (va vb : Value) (a b : List Plain.En) (h : ¬ (Plain.mayL a = true ∧ Plain.mayL b = true)) (w : World) (sa : SegN w va a) (ya : Lies w.heap.size va) (sb : SegN w vb b) (yb : Lies w.heap.size vb) :
    Calls Try.prog 33 #[va, vb] w fun e w' => e = .returned (.tuple #[.slice none 0 0, .int .i64 (4 : Nat)]) ∧ Below w.heap.size w w' := by
  have K1 := rmay_any va a w sa ya
  have K2 := fun w1 (b1 : Below w.heap.size w w1) => rmay_any vb b w1 (sb.below b1 yb) (yb.mono b1.size)
  clear sa sb ya yb
  cases ha : Plain.mayL a with
  | false =>
    rw [ha] at K1
    clear h ha
    go_enter Try.func33, Try.ntmps33
    go_wp2_with fail
    refine K1.mono ?_
    rintro e w1 ⟨rfl, b1⟩
    go_wp2
    go_ret2
    exact ⟨rfl, b1⟩
  | true =>
    have hb : Plain.mayL b = false := by
      cases hb : Plain.mayL b with
      | false => rfl
      | true => exact absurd ⟨ha, hb⟩ h
    rw [ha] at K1
    rw [hb] at K2
    clear h ha hb
    go_enter Try.func33, Try.ntmps33
    go_wp2_with fail
    refine K1.mono ?_
    rintro e w1 ⟨rfl, b1⟩
    go_wp2_with fail
    refine (K2 w1 b1).mono ?_
    rintro e w2 ⟨rfl, b2⟩
    have B2 := hid (b1.trans (b2.mono b1.size))
    clear b1 b2 K1 K2
    go_wp2
    go_ret2
    exact ⟨rfl, B2.out⟩

theorem rmerge_any (va vb : Value) (a b : List Plain.En) (w : World) (sa : SegN w va a) (ya : Lies w.heap.size va) (sb : SegN w vb b) (yb : Lies w.heap.size vb) :
    Calls Try.prog 33 #[va, vb] w fun e w' =>
      ∃ r, e = .returned (.tuple #[r, .int .i64 (Plain.mergeE a b : Nat)]) ∧ SegN w' r (Plain.mergeR a b) ∧ Lies w'.heap.size r ∧ Below w.heap.size w w' := by
  by_cases h : Plain.mayL a = true ∧ Plain.mayL b = true
  · obtain ⟨pa, ca, rfl, _⟩ := sa.form
    obtain ⟨pb, cb, rfl, _⟩ := sb.form
    exact rmerge_walk pa pb ca cb a b h.1 h.2 w sa ya sb yb
  · have e1 : Plain.mergeE a b = 4 := by unfold Plain.mergeE; rw [if_neg h]
    have e2 : Plain.mergeR a b = [] := by unfold Plain.mergeR; rw [e1]; rfl
    rw [e1, e2]
    exact (rmerge_bad va vb a b h w sa ya sb yb).mono fun e w' ⟨h1, h2⟩ => ⟨_, h1, SegN.nil _, lies_nil _ _ _, h2⟩
end Go.Proofs.Ytcobehkadhcjiaa

/-
  A contract of the document's answer to many merges.
-/
namespace Go.Proofs.Ytcobehkadhcjiaa
open Go Go.Conc Go.RowKit Go.Sort Go.Shelf

theorem Plain.allA_may {ls : List (List Plain.En)} (h2 : ¬ 200 < ls.length) (h : ∀ j, j < ls.length → Plain.mayL (ls.getD j []) = true) : Plain.allA ls = Plain.crewF [] ls := by
  have hm : ∀ l ∈ ls, Plain.mayL l = true := fun l hl => by
    obtain ⟨j, hj, rfl⟩ := List.getElem_of_mem hl
    have := h j hj
    rwa [Plain.getD_lt hj] at this
  have hq : ls.any (fun l => !Plain.mayL l) = false := List.any_eq_false.2 fun l hl => by rw [hm l hl]; decide
  unfold Plain.allA
  rw [if_neg h2, hq, Plain.crewF_nil hm]
  rfl
theorem Plain.allA_bad {ls : List (List Plain.En)} (h2 : ¬ 200 < ls.length) {j : Nat} (hj : j < ls.length) (h : Plain.mayL (ls.getD j []) = false) : Plain.allA ls = ([], 4) := by
  have hq : ls.any (fun l => !Plain.mayL l) = true := List.any_eq_true.2 ⟨ls[j], List.getElem_mem hj, by rw [← Plain.getD_lt hj, h]; rfl⟩
  unfold Plain.allA
  rw [if_neg h2, if_pos hq]

/-- What is still to be merged. -/
theorem Plain.crewF_drop {ls : List (List Plain.En)} {k : Nat} (hk : k < ls.length) (O : List Plain.En) : Plain.crewF O (ls.drop k) = if Plain.mergeE O (ls.getD k []) = 0 then Plain.crewF (Plain.mergeR O (ls.getD k [])) (ls.drop (k + 1)) else ([], Plain.mergeE O (ls.getD k [])) := by
  rw [List.drop_eq_getElem_cons hk, ← Plain.getD_lt hk, Plain.crewF]

set_option maxHeartbeats 4000000 in
theorem rcrew_c (b off n c : Nat) (ls : List (List Plain.En)) (w : World) (hls : ∀ j, (ls.getD j []).length ≤ 9223372036854775807) (h200 : ¬ 200 < n) (hL : LsB w.heap.size w b off n ls) :
    Calls Try.prog 11 #[.slice (some ⟨b, off, none⟩) n c] w fun e w' => ∃ r, e = .returned (.tuple #[r, .int .i64 ((Plain.allA ls).2 : Nat)]) ∧ SegN w' r (Plain.allA ls).1 ∧ Lies w'.heap.size r ∧ Below w.heap.size w w' := by
  have HC := hid hL
  have HN := hid hL.len
  have h200' : ¬ (n : Int) > 200 := by omega
  have HB := hid hls
  clear hL hls
  go_enter Try.func11, Try.ntmps11
  go_wp2
  go_loopg [5, 16] n (fun gg _ s16 wr => ∃ kk : Nat, kk ≤ n ∧ n - kk ≤ gg ∧ s16 = .int .i64 kk ∧ Aside (Below w.heap.size w wr) ∧ Aside (∀ j, j < kk → Plain.mayL (ls.getD j []) = true))
  case atStart => exact ⟨0, Nat.zero_le _, by omega, rfl, Below.refl _ w, fun j hj => absurd hj (Nat.not_lt_zero _)⟩
  case round =>
    obtain ⟨kk, hkk, hg, rfl, BW, A⟩ := hrel
    by_cases hlt : kk < n
    · have hltz : (kk : Int) < (n : Int) := by omega
      obtain ⟨v, c0, ev⟩ := (HC.out.keep (keepB_below BW.out)).at_ kk hlt
      have hcall := rmay_any v (ls.getD kk []) wr ev.seg (ev.lies.mono BW.out.size)
      clear ev
      generalize hy : ls.getD kk [] = y at hcall
      have HY : Aside (ls.getD kk [] = y) := hy
      clear hy
      cases hq : Plain.mayL y with
      | false =>
        rw [hq] at hcall
        go_wp2_with (go_at_call 32; refine hcall.mono ?_; rintro e w' ⟨rfl, hb'⟩)
        go_ret2
        have ha := Plain.allA_bad (ls := ls) (by rw [HN.out]; exact h200) (j := kk) (by rw [HN.out]; exact hlt) (by rw [HY.out]; exact hq)
        rw [ha]
        exact ⟨_, rfl, SegN.nil _, lies_nil _ _ _, BW.out.trans (hb'.mono BW.out.size)⟩
      | true =>
        rw [hq] at hcall
        go_wp2_with (go_at_call 32; refine hcall.mono ?_; rintro e w' ⟨rfl, hb'⟩)
        go_roundg (n - (kk + 1))
        case measure => omega
        case rel =>
          refine ⟨kk + 1, by omega, by omega, by go_num, BW.out.trans (hb'.mono BW.out.size), (show Aside _ from fun j hj => ?_)⟩
          by_cases e : j = kk
          · subst e
            rw [HY.out, hq]
          · exact A.out j (by omega)
    · have hltz : ¬ (kk : Int) < (n : Int) := by omega
      have : kk = n := by omega
      subst this
      have ha := Plain.allA_may (ls := ls) (by rw [HN.out]; exact h200) (by rw [HN.out]; exact A.out)
      have HA : Hid (Plain.allA ls = Plain.crewF [] ls) := hid ha
      have hw0 := BW.out
      clear ha A
      go_wp2
      obtain ⟨w0, hw0'⟩ : ∃ w0, w0 = wr := ⟨_, rfl⟩
      subst hw0'
      go_loopg [6, 8, 9, 10, 26] kk (fun gg s6 _ _ _ s26 wr => ∃ (k : Nat) (O : List Plain.En) (vo : Value), k ≤ kk ∧ kk - k ≤ gg ∧ s26 = .int .i64 k ∧ vo = s6 ∧ Aside (Below w.heap.size w wr) ∧ Aside (SegN wr vo O) ∧ Aside (Lies wr.heap.size vo) ∧ Aside (Plain.crewF O (ls.drop k) = Plain.crewF [] ls))
      case atStart => exact ⟨0, [], _, Nat.zero_le _, by omega, rfl, rfl, hw0, SegN.nil _, lies_nil _ _ _, rfl⟩
      case round =>
        obtain ⟨k, O, vo, hk, hg2, rfl, rfl, BW2, SO, YO, FO⟩ := hrel
        by_cases hlt2 : k < kk
        · have hltz2 : (k : Int) < (kk : Int) := by omega
          obtain ⟨v, c0, ev⟩ := (HC.out.keep (keepB_below BW2.out)).at_ k hlt2
          have hcall := rmerge_any vo v O (ls.getD k []) wr SO.out YO.out ev.seg (ev.lies.mono BW2.out.size)
          have fd := Plain.crewF_drop (ls := ls) (k := k) (by rw [HN.out]; exact hlt2) O
          rw [FO.out] at fd
          clear ev
          generalize ls.getD k [] = y at hcall fd
          generalize hE : Plain.mergeE O y = E at hcall fd
          generalize Plain.mergeR O y = R at hcall fd
          have FD := hid fd
          clear fd hE
          by_cases hE0 : E = 0
          · subst hE0
            go_wp2_with (go_at_call 33; refine hcall.mono ?_; rintro e w' ⟨r, rfl, s', y', hb'⟩)
            go_roundg (kk - (k + 1))
            case measure => omega
            case rel =>
              refine ⟨k + 1, R, r, by omega, by omega, by go_num, rfl, BW2.out.trans (hb'.mono BW2.out.size), s', y', (show Aside _ from ?_)⟩
              have := FD.out
              simp only [if_true] at this
              exact this.symm
          · have hE1 : ((E : Int) != 0) = true := by simpa using hE0
            have hE2 : ¬ (E : Int) = 0 := by omega
            go_wp2_with (go_at_call 33; refine hcall.mono ?_; rintro e w' ⟨r, rfl, s', y', hb'⟩)
            go_ret2
            have := FD.out
            rw [if_neg hE0] at this
            rw [HA.out, this]
            exact ⟨_, rfl, SegN.nil _, lies_nil _ _ _, BW2.out.trans (hb'.mono BW2.out.size)⟩
        · have hltz2 : ¬ (k : Int) < (kk : Int) := by omega
          have : k = kk := by omega
          subst this
          have e1 := FO.out
          rw [List.drop_eq_nil_iff.2 (by rw [HN.out]; exact Nat.le_refl _)] at e1
          go_wp2
          go_ret2
          rw [HA.out, ← e1]
          exact ⟨_, rfl, SO.out, YO.out, BW2.out⟩

set_option maxHeartbeats 2000000 in
theorem rcrew_nil (p : Option Addr) (c : Nat) (w : World) :
    Calls Try.prog 11 #[.slice p 0 c] w fun e w' => e = .returned (.tuple #[.slice none 0 0, .int .i64 0]) ∧ w' = w := by
  go_enter Try.func11, Try.ntmps11
  go_wp2
  refine wp_loop_rounds 1 ?_
  rw [rounds_succ]
  go_wp2
  refine wp_loop_rounds 1 ?_
  rw [rounds_succ]
  go_wp2
  go_ret2
  exact ⟨rfl, rfl⟩
set_option maxHeartbeats 2000000 in
theorem rcrew_long (p : Option Addr) (n c : Nat) (h : 200 < n) (w : World) :
    Calls Try.prog 11 #[.slice p n c] w fun e w' => e = .returned (.tuple #[.slice none 0 0, .int .i64 1]) ∧ w' = w := by
  have h' : (n : Int) > 200 := by omega
  go_enter Try.func11, Try.ntmps11
  go_wp2
  go_ret2
  exact ⟨rfl, rfl⟩
/-- The document's answer, whatever the lists. -/
theorem rcrew_any (v : Value) (ls : List (List Plain.En)) (w : World) (hls : ∀ j, (ls.getD j []).length ≤ 9223372036854775807) (hL : LsO w v ls) :
    Calls Try.prog 11 #[v] w fun e w' => ∃ r, e = .returned (.tuple #[r, .int .i64 ((Plain.allA ls).2 : Nat)]) ∧ SegN w' r (Plain.allA ls).1 ∧ Lies w'.heap.size r ∧ Below w.heap.size w w' := by
  by_cases h2 : 200 < ls.length
  · obtain ⟨p, c, rfl⟩ := hL.form
    have ha : Plain.allA ls = ([], 1) := by unfold Plain.allA; rw [if_pos h2]
    rw [ha]
    refine (rcrew_long p ls.length c h2 w).mono ?_
    rintro e w' ⟨rfl, rfl⟩
    exact ⟨_, rfl, SegN.nil _, lies_nil _ _ _, Below.refl _ _⟩
  · rcases hL with ⟨rfl, p, c, rfl⟩ | ⟨b, off, c, rfl, _, hL⟩
    · refine (rcrew_nil p c w).mono ?_
      rintro e w' ⟨rfl, rfl⟩
      exact ⟨_, rfl, SegN.nil _, lies_nil _ _ _, Below.refl _ _⟩
    · exact rcrew_c b off ls.length c ls w hls h2 hL
end Go.Proofs.Ytcobehkadhcjiaa
