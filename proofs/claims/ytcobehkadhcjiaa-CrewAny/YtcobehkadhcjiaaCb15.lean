/-
  Goroutines among others: part 15 of what the law's own text rests on.
-/
import Derived.Test.YtcobehkadhcjiaaCb14
import Derived.Laws.StructEq
import Derived.OwnWalk
import Derived.Laws.Externs
import Derived.Deep.RegionLaw
import Derived.Shelf.RegionOpenPlain
import Derived.Shelf.SlSortCmp.QuietGrown
/-
  Rows of entries: equality, what a store makes of a row; a contract of slices.Clone.
-/
namespace Go.Proofs.Ytcobehkadhcjiaa
open Go.RowKit

theorem Try.infoEntry : (Try.prog.info? 41).map (fun i => (i.zero, i.size, i.bytes)) = some (some (.agg #[.int .i64 0, .int .i64 0, .int .i64 0, .int .i64 0, .bool false]), 5, 40) := by kernel_rfl
theorem Try.sizeEntry : (Try.prog.info? 41).map (·.size) = some 5 := by kernel_rfl
theorem Try.guardEntry : Try.prog.eqGuardType Try.prog.depth 41 = false := by kernel_rfl

theorem neqE (x y : Plain.En) (w : World) : (binOp .neq 41 (aggE x) (aggE y)).run Try.prog w = .ok (.bool (x != y)) w := by
  have u3 := Try.underlying3
  have u4 := Try.underlying4
  have a3 := Try.isAgg3
  have z3 := Try.sizeOf3
  have a4 := Try.isAgg4
  have z4 := Try.sizeOf4
  have hS : Try.prog.underlying 41 = some (.struct (Try.prog.fieldsOf 41)) := by kernel_rfl
  have hp : Try.prog.stoodInHeld 41 = false := by kernel_rfl
  obtain ⟨xk, xv, xt, xo, xg⟩ := x
  obtain ⟨yk, yv, yt, yo, yg⟩ := y
  rw [run_neq_struct, show (10000 : Nat) = 9999 + 1 from rfl, run_equalIn_agg w 9999 41 _ _ hS hp]
  simp only [Program.fieldsOf, Try.underlying41]
  go_simp
  by_cases h1 : xk = yk <;> by_cases h2 : xv = yv <;> by_cases h3 : xt = yt <;> by_cases h4 : xo = yo <;> by_cases h5 : xg = yg <;> simp [h1, h2, h3, h4, h5, bne]

/-- An entry is laid over another one, cell by cell. -/
def setE (w : World) (g o : Nat) (y : Plain.En) : World :=
  ((((w.setCell ⟨g, o, none⟩ (.int .i64 y.key)).setCell ⟨g, o + 1, none⟩ (.int .i64 y.value)).setCell ⟨g, o + 2, none⟩ (.int .i64 y.time)).setCell ⟨g, o + 3, none⟩ (.int .i64 y.who)).setCell ⟨g, o + 4, none⟩ (.bool y.gone)

theorem setCell_row {w : World} {g i : Nat} {cur : Array Value} {t : TypeId} {v : Value} (hg : w.heap[g]? = some (.cells cur t (0, 0))) : (w.setCell ⟨g, i, none⟩ v).heap[g]? = some (.cells (cur.setIfInBounds i v) t (0, 0)) := by
  simp [World.setCell, Array.getElem?_modify, hg]
theorem list_set5' (pre post : List Value) (x0 x1 x2 x3 x4 a b c d e : Value) :
    (((((pre ++ x0 :: x1 :: x2 :: x3 :: x4 :: post).set pre.length a).set (pre.length + 1) b).set (pre.length + 2) c).set (pre.length + 3) d).set (pre.length + 4) e = pre ++ [a, b, c, d, e] ++ post := by
  rw [List.set_append_right _ _ (by omega), List.set_append_right _ _ (by omega), List.set_append_right _ _ (by omega), List.set_append_right _ _ (by omega), List.set_append_right _ _ (by omega)]
  simp
theorem list_set5 (l : List Value) (o : Nat) (a b c d e : Value) (h : o + 5 ≤ l.length) :
    ((((l.set o a).set (o + 1) b).set (o + 2) c).set (o + 3) d).set (o + 4) e = l.take o ++ [a, b, c, d, e] ++ l.drop (o + 5) := by
  have hl : (l.take o).length = o := by rw [List.length_take]; omega
  have hd : (l.drop o).length = l.length - o := List.length_drop
  have e1 : l = l.take o ++ l.drop o := (List.take_append_drop o l).symm
  have e2 : l.drop (o + 5) = (l.drop o).drop 5 := by rw [List.drop_drop]
  rw [e2]
  generalize l.drop o = r at hd e1
  match r, hd with
  | [], hd => simp at hd; omega
  | [_], hd => simp at hd; omega
  | [_, _], hd => simp at hd; omega
  | [_, _, _], hd => simp at hd; omega
  | [_, _, _, _], hd => simp at hd; omega
  | x0 :: x1 :: x2 :: x3 :: x4 :: post, _ =>
    have := list_set5' (l.take o) post x0 x1 x2 x3 x4 a b c d e
    rw [hl, ← e1] at this
    exact this
/-- What stands in the first n places when a piece is laid over. -/
theorem take_splice (cur : List Value) (o n : Nat) (cs : List Value) (h : o + cs.length ≤ n) (hn : n ≤ cur.length) :
    (cur.take o ++ cs ++ cur.drop (o + cs.length)).take n = (cur.take n).take o ++ cs ++ (cur.take n).drop (o + cs.length) := by
  have h1 : (cur.take o).length = o := by rw [List.length_take]; omega
  rw [List.take_take, Nat.min_eq_left (by omega), List.drop_take, List.take_append, List.take_append, List.length_append, h1]
  rw [List.take_of_length_le (l := cur.take o) (by omega), List.take_of_length_le (l := cs) (by omega)]
theorem evals_set (l : List Plain.En) (i : Nat) (h : i < l.length) (y : Plain.En) : (evals l).take (i * 5) ++ encE y ++ (evals l).drop (i * 5 + 5) = evals (l.set i y) := by
  have e : l.set i y = l.take i ++ y :: l.drop (i + 1) := by rw [List.set_eq_take_append_cons_drop, if_pos h]
  rw [(evals_split l i (by omega)).1, show i * 5 + 5 = (i + 1) * 5 by omega, (evals_split l (i + 1) (by omega)).2, e, evals_app, evals_cons, List.append_assoc]
/-- The row's cells when an entry is laid over. -/
def over5 (cur : Array Value) (o : Nat) (y : Plain.En) : Array Value :=
  ((((cur.setIfInBounds o (.int .i64 y.key)).setIfInBounds (o + 1) (.int .i64 y.value)).setIfInBounds (o + 2) (.int .i64 y.time)).setIfInBounds (o + 3) (.int .i64 y.who)).setIfInBounds (o + 4) (.bool y.gone)
theorem setE_row {w : World} {g o : Nat} {cur : Array Value} {t : TypeId} (hg : w.heap[g]? = some (.cells cur t (0, 0))) (y : Plain.En) : (setE w g o y).heap[g]? = some (.cells (over5 cur o y) t (0, 0)) :=
  setCell_row (setCell_row (setCell_row (setCell_row (setCell_row hg))))
theorem over5_size (cur : Array Value) (o : Nat) (y : Plain.En) : (over5 cur o y).size = cur.size := by simp [over5]
theorem over5_list (cur : Array Value) (o : Nat) (y : Plain.En) (h : o + 5 ≤ cur.size) : (over5 cur o y).toList = cur.toList.take o ++ encE y ++ cur.toList.drop (o + 5) := by
  unfold over5
  simp only [Array.toList_setIfInBounds]
  exact list_set5 _ _ _ _ _ _ _ (by simpa using h)
theorem over5_take (cur : Array Value) (l : List Plain.En) (i : Nat) (y : Plain.En) (hi : i < l.length) (hs : l.length * 5 ≤ cur.size) (ht : cur.toList.take (l.length * 5) = evals l) : (over5 cur (i * 5) y).toList.take (l.length * 5) = evals (l.set i y) := by
  rw [over5_list cur (i * 5) y (by omega)]
  have e := take_splice cur.toList (i * 5) (l.length * 5) (encE y) (by rw [encE_len]; omega) (by rw [Array.length_toList]; exact hs)
  rw [ht, encE_len, evals_set l i hi] at e
  exact e
theorem OwnN.set {w : World} {B T g n c : Nat} {l : List Plain.En} (h : OwnN w B T (.slice (some ⟨g, 0, none⟩) n c) l) (i : Nat) (hi : i < l.length) (y : Plain.En) : OwnN (setE w g (i * 5) y) B T (.slice (some ⟨g, 0, none⟩) n c) (l.set i y) := by
  obtain ⟨g', cap, cur, e, hB, hb, hc, hm, hs, ht⟩ := h.row (by omega)
  simp only [Value.slice.injEq, Option.some.injEq, Addr.mk.injEq, and_true] at e
  obtain ⟨rfl, rfl, rfl⟩ := e
  have hlen : (l.set i y).length = l.length := List.length_set
  have key := OwnN.mk (w := setE w g (i * 5) y) (l := l.set i y) (T := T) (cap := c) hB (setE_row hb y) (by rw [hlen]; exact hc) hm (by rw [over5_size]; exact hs) (by rw [hlen]; exact over5_take cur l i y hi (by omega) ht)
  rw [hlen] at key
  exact key
theorem below_setE {B g o : Nat} {w0 w : World} (h : Below B w0 w) (hg : B ≤ g) (y : Plain.En) : Below B w0 (setE w g o y) :=
  ((((h.setCell (p := ⟨g, o, none⟩) hg _).setCell (p := ⟨g, o + 1, none⟩) hg _).setCell (p := ⟨g, o + 2, none⟩) hg _).setCell (p := ⟨g, o + 3, none⟩) hg _).setCell (p := ⟨g, o + 4, none⟩) hg _
theorem OwnN.frozen {w : World} {B T g n c : Nat} {l : List Plain.En} (h : OwnN w B T (.slice (some ⟨g, 0, none⟩) n c) l) (hl : 0 < l.length) (o : Nat) : w.frozen? ⟨g, o, none⟩ = false := by
  obtain ⟨g', cap, cur, e, hB, hb, _⟩ := h.row hl
  injection e with e1 e2 e3
  injection e1 with e1
  injection e1 with e1 _ _
  subst e1
  simp [World.frozen?, hb]
theorem OwnN.at {w : World} {B T : Nat} {v : Value} {l : List Plain.En} (h : OwnN w B T v l) (hl : 0 < l.length) : ∃ g c, v = .slice (some ⟨g, 0, none⟩) l.length c ∧ B ≤ g ∧ g < w.heap.size ∧ l.length ≤ c ∧ c ≤ 9223372036854775807 := by
  obtain ⟨g, c, cur, e, hB, hb, hc, hm, _⟩ := h.row hl
  exact ⟨g, c, e, hB, (Array.getElem?_eq_some_iff.1 hb).1, hc, hm⟩
theorem OwnN.form {w : World} {B T : Nat} {v : Value} {l : List Plain.En} (h : OwnN w B T v l) : ∃ p c, v = .slice p l.length c := by
  rcases h.2 with ⟨rfl, h0⟩ | ⟨g, cap, _, rfl, _⟩
  · exact ⟨_, _, by rw [h0]⟩
  · exact ⟨_, _, rfl⟩

set_option maxHeartbeats 1000000 in
set_option maxRecDepth 100000 in
theorem clone_some (a : Addr) (n c : Nat) (l : List Plain.En) (hn : l.length = n) (h8 : n ≤ 1000) (w : World) (hlt : 0 < n → a.block < w.heap.size) (hc : ∀ j u, (evals l)[j]? = some u → w.cell? (a.add j) = some u) :
    Calls Try.prog 68 #[.slice (some a) n c] w fun e w' => ∃ v', e = .returned v' ∧ OwnN w' w.heap.size 41 v' l ∧ Below w.heap.size w w' := by
  obtain ⟨i0, hi, hz0, hz1, hz2⟩ := info_parts Try.infoEntry
  have HC := hid hc
  have HN := hid hn
  have HL := hid hlt
  clear hc hn hlt
  have he : ∀ w : World, (binOp .eql 30 (.slice (some a) n c) (.slice none 0 0)).run Try.prog w = .ok (.bool false) w := fun _ => rfl
  have hown : (w.alloc (.cells #[] 41)).ownsRow w.heap.size 41 5 (.slice (some ⟨w.heap.size, 0, none⟩) 0 0) 0 [] :=
    ⟨rfl, .inr ⟨w.heap.size, 0, #[], rfl, Nat.le_refl _, Deep.blk_alloc_new _ _, Nat.le_refl _, by unfold maxLen; omega, rfl, rfl⟩⟩
  go_enter Try.func68, Try.ntmps68
  go_wp2_with (first
    | (at_builtin; refine wpList_append_own _ rfl _ _ 30 rfl w.heap.size 41 i0 _ 5 40 Try.underlying30 hi hz0 hz1 hz2 rfl (by decide) _ _ _ rfl hown a n c (evals l) rfl ?c0 ?c1 ?c2 ?c3 ?c4 ?c5 ?_)
    | go_in)
  case c0 => rw [evals_len, HN.out]
  case c1 =>
    intro j u hj
    have h1 := HC.out j u hj
    have hjl := (List.getElem?_eq_some_iff.1 hj).1
    rw [evals_len, HN.out] at hjl
    have h2 : (a.add j).block < w.heap.size := by
      have := HL.out (by omega)
      by_cases h : j = 0
      · subst h; simpa [Addr.add] using this
      · simpa [Addr.add, h] using this
    exact (((Below.refl w.heap.size w).alloc (Nat.le_refl _) (.cells #[] 41)).cell h2).trans h1
  case c2 => exact evals_one l
  case c3 => unfold maxLen; omega
  case c4 => omega
  case c5 => simp
  intro v' w1 hown' hgrow _
  have R := hid (show OwnN w1 w.heap.size 41 v' l by
    have e := HN.out
    unfold OwnN
    rw [e]
    simpa using hown')
  have RB := hid (show Below w.heap.size w w1 from ((Below.refl w.heap.size w).alloc (Nat.le_refl _) (.cells #[] 41)).grown hgrow (by simp) (fun j hj => by simp [Value.ownBlock] at hj; omega))
  clear hown' hgrow he hown
  go_wp2
  go_ret
  exact ⟨v', rfl, R.out, RB.out⟩

set_option maxRecDepth 100000 in
set_option maxHeartbeats 1000000 in
theorem clone_none (n c : Nat) (w : World) : Calls Try.prog 68 #[.slice none n c] w fun e w' => e = .returned (.slice none 0 0) ∧ w' = w := by
  have he : ∀ w : World, (binOp .eql 30 (.slice none n c) (.slice none 0 0)).run Try.prog w = .ok (.bool true) w := fun _ => rfl
  go_enter Try.func68, Try.ntmps68
  go_wp2
  go_ret
  exact ⟨rfl, rfl⟩

theorem clone_any (v : Value) (l : List Plain.En) (h8 : l.length ≤ 1000) (w : World) (hs : SegN w v l) (hy : Lies w.heap.size v) :
    Calls Try.prog 68 #[v] w fun e w' => ∃ v', e = .returned v' ∧ OwnN w' w.heap.size 41 v' l ∧ Below w.heap.size w w' := by
  rcases hs with ⟨rfl, q, c, rfl⟩ | ⟨b, off, c, rfl, _, hc⟩
  · cases q with
    | none => exact (clone_none 0 c w).mono fun e w' ⟨h1, h2⟩ => ⟨_, h1, OwnN.nil _ _ _, by rw [h2]; exact Below.refl _ _⟩
    | some a => exact clone_some a 0 c [] rfl (by omega) w (fun h => by omega) (fun j u hj => by simp [evals] at hj)
  · exact clone_some ⟨b, off, none⟩ l.length c l rfl h8 w (fun h => hy ⟨b, off, none⟩ _ _ rfl h) (fun j u hj => by rw [addr_add]; exact hc.vals j u hj)
end Go.Proofs.Ytcobehkadhcjiaa

/-
  A contract of slices.BinarySearchFunc at entries, by their keys.
-/
namespace Go.Proofs.Ytcobehkadhcjiaa
open Go.RowKit

namespace Plain
/-- How two numbers compare. -/
def cmpI (a b : Int) : Int := if a < b then -1 else if b < a then 1 else 0
end Plain

set_option maxHeartbeats 1000000 in
theorem comp_c (x : Plain.En) (k : Int) (w : World) :
    Calls Try.prog 70 #[aggE x, .int .i64 k] w fun e w' => e = .returned (.int .i64 (Plain.cmpI x.key k)) ∧ w' = w.alloc (boxE x) := by
  obtain ⟨xk, xv, xt, xo, xg⟩ := x
  unfold Plain.cmpI
  dsimp only
  by_cases h1 : xk < k
  · rw [if_pos h1]
    go_enter Try.func70, Try.ntmps70
    go_wp2
    go_ret
    exact ⟨rfl, rfl⟩
  · rw [if_neg h1]
    by_cases h2 : k < xk
    · rw [if_pos h2]
      go_enter Try.func70, Try.ntmps70
      go_wp2
      go_ret
      exact ⟨rfl, rfl⟩
    · rw [if_neg h2]
      go_enter Try.func70, Try.ntmps70
      go_wp2
      go_ret
      exact ⟨rfl, rfl⟩

set_option maxHeartbeats 2000000 in
theorem search_some (b off n c : Nat) (k : Int) (l : List Plain.En) (hs : Plain.Srt l) (hn : l.length = n) (hbig : n ≤ 1000) (w : World) (hb : 0 < n → b < w.heap.size) (hc : CellsN w b off l) :
    Calls Try.prog 69 #[.slice (some ⟨b, off, none⟩) n c, .int .i64 k, .func (.func 70) #[] #[]] w fun e w' =>
      e = .returned (.tuple #[.int .i64 (Plain.less k l : Nat), .bool (Plain.hasK k l)]) ∧ Below w.heap.size w w' := by
  have HC := hid hc
  have HN := hid hn
  have HS := hid hs
  have HL := hid (Plain.less_le k l)
  clear hc hn hs
  go_enter Try.func69, Try.ntmps69
  go_wp2
  go_loopw [9, 10] (fun s9 s10 wx => ∃ i j : Nat, s9 = .int .i64 i ∧ s10 = .int .i64 j ∧ i ≤ Plain.less k l ∧ Plain.less k l ≤ j ∧ j ≤ n ∧ Below w.heap.size w wx) (fun s9 s10 _ => (intOf s10).toNat - (intOf s9).toNat)
  case atStart => exact ⟨0, n, rfl, rfl, Nat.zero_le _, by rw [← HN.out]; exact HL.out, Nat.le_refl _, Below.refl _ _⟩
  case round =>
    obtain ⟨i, j, rfl, rfl, h1, h2, h3, hbel⟩ := hrel
    have HB := hid hbel
    have H1 := hid h1
    have H2 := hid h2
    clear hbel h1 h2
    by_cases hij : i < j
    · have hij' : (i : Int) < (j : Int) := by omega
      obtain ⟨h, hh⟩ : ∃ h, h = (i + j) / 2 := ⟨_, rfl⟩
      have hh1 : i ≤ h := by omega
      have hh2 : h < j := by omega
      have hh2' : (h : Int) < (n : Int) := by omega
      have hdiv : ((i : Int) + (j : Int)) / 2 = (h : Int) := by omega
      have HH := hid hh
      clear hh
      obtain ⟨c0, c1, c2, c3, c4⟩ := (HC.out h (by rw [HN.out]; omega)).below HB.out (hb (by omega))
      have KC := fun W => comp_c (Plain.en l h) k W
      have HA := hid (Plain.less_at (k := k) HS.out (i := h) (by rw [HN.out]; omega))
      generalize Plain.en l h = y at c0 c1 c2 c3 c4 KC HA
      by_cases hy : y.key < k
      · have e1 : Plain.cmpI y.key k = -1 := by unfold Plain.cmpI; rw [if_pos hy]
        rw [e1] at KC
        have hlo := HA.out.1 hy
        clear e1
        go_wp2_with (go_at_call 70; refine (KC _).mono ?_; rintro e w' ⟨rfl, rfl⟩)
        go_roundw
        case rel => exact ⟨h + 1, j, by go_num, rfl, hlo, H2.out, h3, HB.out.alloc HB.out.size _⟩
        case measure => simp [intOf]; omega
      · have hz : ¬ Plain.cmpI y.key k < 0 := by
          unfold Plain.cmpI
          rw [if_neg hy]
          split <;> omega
        have hhi : Plain.less k l ≤ h := by
          have := mt HA.out.2 hy
          omega
        generalize Plain.cmpI y.key k = z at KC hz
        have hz0 : 0 ≤ z := by omega
        go_wp2_with (go_at_call 70; refine (KC _).mono ?_; rintro e w' ⟨rfl, rfl⟩)
        go_roundw
        case rel => exact ⟨i, h, rfl, rfl, H1.out, hhi, by omega, HB.out.alloc HB.out.size _⟩
        case measure => simp [intOf]; omega
    · have hij' : ¬ (i : Int) < (j : Int) := by omega
      have ei : i = Plain.less k l := by have := H1.out; have := H2.out; omega
      by_cases hin : i < n
      · have hin' : (i : Int) < (n : Int) := by omega
        obtain ⟨c0, c1, c2, c3, c4⟩ := (HC.out i (by rw [HN.out]; exact hin)).below HB.out (hb (by omega))
        have KC := fun W => comp_c (Plain.en l i) k W
        have HA := hid (mt (Plain.less_at (k := k) HS.out (i := i) (by rw [HN.out]; exact hin)).1 (by omega))
        have HK := hid (show Plain.hasK k l = decide ((Plain.en l i).key = k) by
          unfold Plain.hasK
          rw [← ei, HN.out]
          simp [hin])
        have HE := hid ei
        clear ei
        generalize Plain.en l i = y at c0 c1 c2 c3 c4 KC HA HK
        have hcm : Plain.cmpI y.key k = if y.key = k then 0 else 1 := by
          have := HA.out
          unfold Plain.cmpI
          rw [if_neg this]
          by_cases e : y.key = k
          · rw [if_pos e, if_neg (by omega)]
          · rw [if_neg e, if_pos (by omega)]
        rw [hcm] at KC
        clear hcm
        by_cases e : y.key = k
        · rw [if_pos e] at KC
          have HR := hid (show Plain.hasK k l = true by rw [HK.out]; exact decide_eq_true e)
          clear e
          go_wp2_with (go_at_call 70; refine (KC _).mono ?_; rintro e w' ⟨rfl, rfl⟩)
          go_ret2
          exact ⟨by rw [HR.out, ← HE.out]; rfl, HB.out.alloc HB.out.size _⟩
        · rw [if_neg e] at KC
          have HR := hid (show Plain.hasK k l = false by rw [HK.out]; exact decide_eq_false e)
          clear e
          go_wp2_with (go_at_call 70; refine (KC _).mono ?_; rintro e w' ⟨rfl, rfl⟩)
          go_ret2
          exact ⟨by rw [HR.out, ← HE.out]; rfl, HB.out.alloc HB.out.size _⟩
      · have hin' : ¬ (i : Int) < (n : Int) := by omega
        have HR := hid (show Plain.hasK k l = false by
          unfold Plain.hasK
          rw [← ei, HN.out]
          simp [hin])
        have HE := hid ei
        clear ei
        go_wp2
        go_ret2
        exact ⟨by rw [HR.out, ← HE.out]; rfl, HB.out⟩

set_option maxHeartbeats 1000000 in
theorem search_nil (p : Option Addr) (c : Nat) (k : Int) (f : Value) (w : World) :
    Calls Try.prog 69 #[.slice p 0 c, .int .i64 k, f] w fun e w' => e = .returned (.tuple #[.int .i64 0, .bool false]) ∧ w' = w := by
  go_enter Try.func69, Try.ntmps69
  go_wp2
  refine wp_loop_rounds 1 ?_
  rw [rounds_succ]
  go_wp2
  go_ret2
  exact ⟨rfl, rfl⟩

theorem search_any (v : Value) (k : Int) (l : List Plain.En) (hs : Plain.Srt l) (hbig : l.length ≤ 1000) (w : World) (h : SegN w v l) (hy : Lies w.heap.size v) :
    Calls Try.prog 69 #[v, .int .i64 k, .func (.func 70) #[] #[]] w fun e w' =>
      e = .returned (.tuple #[.int .i64 (Plain.less k l : Nat), .bool (Plain.hasK k l)]) ∧ Below w.heap.size w w' := by
  rcases h with ⟨rfl, q, c, rfl⟩ | ⟨b, off, c, rfl, _, hc⟩
  · exact (search_nil q c k _ w).mono fun e w' ⟨h1, h2⟩ => ⟨by rw [h1]; rfl, by rw [h2]; exact Below.refl _ _⟩
  · exact search_some b off l.length c k l hs rfl hbig w (fun h0 => hy ⟨b, off, none⟩ _ _ rfl h0) hc
end Go.Proofs.Ytcobehkadhcjiaa

/-
  A contract of slices.Insert at entries in a row of the call's own: one entry, at a place.
-/
namespace Go.Proofs.Ytcobehkadhcjiaa
open Go.RowKit

/-- An operation whose run is known: what follows goes on with its answer, in its world. -/
theorem wp_known {P : Program} {w w' : World} {o : Oper} {a : Act} {K : Act → World → Prop} {Q : Exit → Act → World → Prop} {v : Value} (hr : (execOp a.eval o).run P w = .ok (.value v) w') (h : K (a.put o.dst v) w') : o.wp P a w K Q := by
  unfold Oper.wp
  rw [hr]
  exact h
/-- The run of a copy, as an operation's. -/
theorem exec_copy {P : Program} {w w' : World} {o : Oper} {e : Operand → Value} {d s : Operand} {t t' : TypeId} {x y v : Value} (ho : o.op = .call { callee := .builtin .copy, args := #[d, s], argTypes := #[t, t'] }) (hd : e d = x) (hs : e s = y)
    (hr : (Builtin.copy_ #[t, t'] o.type #[x, y]).run P w = .ok v w') : (execOp e o).run P w = .ok (.value v) w' := by
  simp [execOp, ho, resolve, invoke, builtin, hd, hs, hr]
theorem wpList_copyK {P : Program} (w : World) {ops : Array Oper} {rest : List Oper} {o : Oper} {a : Act} {Q : Exit → Act → World → Prop} (hgd : o.guard = none) (d s : Operand) (t t' : TypeId)
    (ho : o.op = .call { callee := .builtin .copy, args := #[d, s], argTypes := #[t, t'] }) (x y : Value) (hd : a.eval d = x) (hs : a.eval s = y) {v : Value} {w' : World}
    (hr : (Builtin.copy_ #[t, t'] o.type #[x, y]).run P w = .ok v w') (h : wpList P ops Q rest (a.put o.dst v) w') : wpList P ops Q (o :: rest) a w :=
  wpList_plain hgd fun _ hK => wp_known (exec_copy ho hd hs hr) (hK _ _ h)
/-- The same, as a step of a region that draws. -/
theorem step_copyK {P : Program} {ops : Array Oper} {o : Oper} {a : Act} {w : World} {K : Act → World → Prop} {Q : Exit → Act → World → Prop} {E : Prop} (hgd : o.guard = none) (d s : Operand) (t t' : TypeId)
    (ho : o.op = .call { callee := .builtin .copy, args := #[d, s], argTypes := #[t, t'] }) (x y : Value) (hd : a.eval d = x) (hs : a.eval s = y) {v : Value} {w' : World}
    (hr : (Builtin.copy_ #[t, t'] o.type #[x, y]).run P w = .ok v w') (h : K (a.put o.dst v) w') : if Region.wanted o (yielded ops a.tmps) = true then o.wp P a w K Q else E := by
  rw [if_pos (by simp [Region.wanted, hgd])]
  exact wp_known (exec_copy ho hd hs hr) h

/-- The entry that is put in lies in a block of its own. -/
theorem box_vals {w : World} {vb : Nat} {x : Plain.En} (h : w.heap[vb]? = some (boxE x)) : ∀ j u, (encE x)[j]? = some u → w.cell? ((⟨vb, 0, none⟩ : Addr).add j) = some u := by
  intro j u hj
  rw [add_zero_at]
  simp only [World.cell?, h]
  match j, hj with
  | 0, hj => injection hj with hj; subst hj; rfl
  | 1, hj => injection hj with hj; subst hj; rfl
  | 2, hj => injection hj with hj; subst hj; rfl
  | 3, hj => injection hj with hj; subst hj; rfl
  | 4, hj => injection hj with hj; subst hj; rfl

set_option maxHeartbeats 2000000 in
set_option maxRecDepth 100000 in
theorem insert_end (v : Value) (vb B : Nat) (l : List Plain.En) (x : Plain.En) (w : World) (hl : l.length ≤ 1000) (hB : B ≤ w.heap.size) (h : OwnN w B 41 v l) (hv : w.heap[vb]? = some (boxE x)) :
    Calls Try.prog 72 #[v, .int .i64 (l.length : Nat), .slice (some ⟨vb, 0, none⟩) 1 1] w fun e w' =>
      ∃ v', e = .returned v' ∧ OwnN w' B 41 v' (l ++ [x]) ∧ Below B w w' := by
  obtain ⟨p, c, rfl⟩ := h.form
  obtain ⟨i0, hi, hz0, hz1, hz2⟩ := info_parts Try.infoEntry
  have H := hid (show w.ownsRow B 41 5 (.slice p l.length c) l.length (evals l) from h)
  have HV := hid (box_vals hv)
  have HG := hid (show ∀ j, (Value.slice p l.length c).ownBlock = some j → B ≤ j by
    intro j hj
    rcases h.2 with ⟨e, _⟩ | ⟨g, cap, cur, e, hg, _⟩
    · rw [e] at hj; simp [Value.ownBlock] at hj
    · rw [e] at hj; simp [Value.ownBlock] at hj; omega)
  clear h hv
  generalize hn : l.length = n at hl H HG ⊢
  have HN := hid hn
  clear hn
  have hcn : n = c ∨ ¬ c = n := by omega
  rcases hcn with rfl | hcn
  all_goals
    go_enter Try.func72, Try.ntmps72
    go_wp2_with (first
      | (at_builtin; refine wpList_append_own _ rfl _ _ 30 rfl B 41 i0 _ 5 40 Try.underlying30 hi hz0 hz1 hz2 rfl (by decide) _ n (evals l) rfl ?c0 ⟨vb, 0, none⟩ 1 1 (encE x) rfl rfl ?c1 ?c2 ?c3 ?c4 ?c5 ?_)
      | fail)
    case c0 => exact H.out
    case c1 => exact HV.out
    case c2 => exact encE_one _
    case c3 => unfold maxLen; omega
    case c4 => omega
    case c5 => exact hB
    intro v' w2 hown' hgrow _
    have R := hid (show OwnN w2 B 41 v' (l ++ [x]) by
      unfold OwnN
      rw [evals_app, List.length_append, HN.out]
      have e : evals [x] = encE x := by rw [evals_cons]; simp [evals]
      rw [e]
      exact hown')
    have RB := hid (show Below B w w2 from (Below.refl _ _).grown hgrow hB HG.out)
    clear hown' hgrow
    go_wp2
    go_ret
    exact ⟨v', rfl, R.out, RB.out⟩

/-- What the row holds when the entry is put in. -/
theorem put_row (cur : Array Value) (l : List Plain.En) (x : Plain.En) (i : Nat) (hi : i < l.length) (hs : (l.length + 1) * 5 ≤ cur.size) (ht : cur.toList.take (i * 5) = evals (l.take i)) :
    (((cur.toList.take (i * 5) ++ encE x ++ cur.toList.drop (i * 5 + 5)).take ((i + 1) * 5) ++ evals (l.drop i) ++ (cur.toList.take (i * 5) ++ encE x ++ cur.toList.drop (i * 5 + 5)).drop ((i + 1) * 5 + (l.length - i) * 5)).take ((l.length + 1) * 5)) = evals (l.take i ++ x :: l.drop i) := by
  have h1 : (cur.toList.take (i * 5)).length = i * 5 := by rw [List.length_take, Array.length_toList]; omega
  have h2 : (cur.toList.take (i * 5) ++ encE x).length = (i + 1) * 5 := by rw [List.length_append, h1, encE_len]; omega
  have h3 : (cur.toList.take (i * 5) ++ encE x ++ cur.toList.drop (i * 5 + 5)).take ((i + 1) * 5) = cur.toList.take (i * 5) ++ encE x := by
    rw [List.take_append_of_le_length (by omega), List.take_of_length_le (by omega)]
  have h4 : (evals (l.drop i)).length = (l.length - i) * 5 := by rw [evals_len, List.length_drop]
  rw [h3, List.take_append_of_le_length (by rw [List.length_append, h2, h4]; omega), List.take_of_length_le (by rw [List.length_append, h2, h4]; omega), ht, evals_app, evals_cons, List.append_assoc]
end Go.Proofs.Ytcobehkadhcjiaa

/-
  slices.Insert at entries where there is no room: a new row.
-/
namespace Go.Proofs.Ytcobehkadhcjiaa
open Go.RowKit

theorem splice_len (cur : List Value) (o : Nat) (cs : List Value) (h : o + cs.length ≤ cur.length) : (cur.take o ++ cs ++ cur.drop (o + cs.length)).length = cur.length := by
  simp only [List.length_append, List.length_take, List.length_drop]
  omega
theorem put_len5 (l : List Plain.En) (x : Plain.En) (i : Nat) (hi : i ≤ l.length) : (l.take i ++ x :: l.drop i).length = l.length + 1 := by
  simp only [List.length_append, List.length_cons, List.length_take, List.length_drop]
  omega

set_option maxHeartbeats 4000000 in
set_option maxRecDepth 100000 in
theorem insert_grow (g n i vb B : Nat) (l : List Plain.En) (x : Plain.En) (w : World) (hn : l.length = n) (hi : i < n) (hl : n ≤ 1000) (hB : B ≤ w.heap.size) (h : OwnN w B 41 (.slice (some ⟨g, 0, none⟩) n n) l) (hv : w.heap[vb]? = some (boxE x)) :
    Calls Try.prog 72 #[.slice (some ⟨g, 0, none⟩) n n, .int .i64 i, .slice (some ⟨vb, 0, none⟩) 1 1] w fun e w' =>
      ∃ v', e = .returned v' ∧ OwnN w' B 41 v' (l.take i ++ x :: l.drop i) ∧ Below B w w' := by
  obtain ⟨i0, hi0, hz0, hz1, hz2⟩ := info_parts Try.infoEntry
  have hcs := h.cells.vals
  simp only [Nat.zero_add] at hcs
  have hgw : g < w.heap.size := h.seg.2 ⟨g, 0, none⟩ _ _ rfl (by omega)
  have hvw : vb < w.heap.size := (Array.getElem?_eq_some_iff.1 hv).1
  have hti : (evals (l.take i)).length = i * 5 := by rw [evals_len, List.length_take]; omega
  have hdi : (evals (l.drop i)).length = (n - i) * 5 := by rw [evals_len, List.length_drop, hn]
  have hold : (Builtin.firstCells i0.size i (.slice (some ⟨g, 0, none⟩) i n)).run Try.prog w.drew = .ok (evals (l.take i)).toArray w.drew := by
    rw [hz1]
    exact run_firstCells_some w.drew 5 i ⟨g, 0, none⟩ i n (evals (l.take i)) hti (fun j v hj => by
      rw [add_zero_at]
      refine hcs j v ?_
      rw [← (evals_split l i (by omega)).1, List.getElem?_take] at hj
      split at hj
      · exact hj
      · cases hj)
  obtain ⟨G, hG⟩ : ∃ G, G = grownCap w (n + 1) n 41 := ⟨_, rfl⟩
  have hGn : n + 1 ≤ G := by rw [hG]; exact grownCap_ge w _ _ _
  have hG63 : G ≤ maxLen := by rw [hG]; exact grownCap_le_maxLen w (n + 1) n 41 (by unfold maxLen; omega)
  obtain ⟨z, hz⟩ : ∃ z : Value, z = .agg #[.int .i64 0, .int .i64 0, .int .i64 0, .int .i64 0, .bool false] := ⟨_, rfl⟩
  have hzc : z.cells.size = 5 := by rw [hz]; rfl
  rw [← hz] at hz0
  obtain ⟨ROW, hROW⟩ : ∃ ROW : Array Value, ROW = (evals (l.take i)).toArray ++ Builtin.zeroCells z.cells (n + 1 - i) ++ Builtin.zeroCells z.cells (G - (n + 1)) := ⟨_, rfl⟩
  have hRs : ROW.size = G * 5 := by
    rw [hROW]
    simp [Builtin.zeroCells, hzc, hti]
    omega
  have hRt : ROW.toList.take (i * 5) = evals (l.take i) := by
    rw [hROW]
    simp only [Array.toList_append, List.append_assoc]
    rw [List.take_append_of_le_length (by omega), List.take_of_length_le (by omega)]
  obtain ⟨W1, hW1⟩ : ∃ W1, W1 = w.drew.alloc (.cells ROW 41) := ⟨_, rfl⟩
  have hrz : ∀ ty, (Builtin.append_ #[30, 3] ty #[.slice (some ⟨g, 0, none⟩) i n, .int .i64 ((n : Int) + 1 - (i : Int))]).run Try.prog w = .ok (.slice (some ⟨w.heap.size, 0, none⟩) (n + 1) G) W1 := fun ty => by
    have hk := Lib.run_append_grow_zeros w 30 3 ty 41 i0 z .i64 .i64 Try.underlying30 Try.underlying3 hi0 hz0 (some ⟨g, 0, none⟩) i n (evals (l.take i)) hold (n + 1 - i) (by omega) (by omega) (by omega) (by omega) (by rw [hz2]; omega) (by rw [hz2, show i + (n + 1 - i) = n + 1 by omega]; exact growslice_fits (by omega) (by omega))
    rw [show i + (n + 1 - i) = n + 1 by omega, ← hG, ← hROW, ← hW1] at hk
    rw [show (n : Int) + 1 - (i : Int) = ((n + 1 - i : Nat) : Int) by omega]
    exact hk
  have hb1 : W1.heap[w.heap.size]? = some (.cells ROW 41 (0, 0)) := by rw [hW1]; exact Deep.blk_alloc_new w.drew _
  have hbel1 : Below w.heap.size w W1 := by rw [hW1]; exact ((Below.refl _ _).drew).alloc (Nat.le_refl _) _
  obtain ⟨R1, hR1⟩ : ∃ R1 : Array Value, R1 = (ROW.toList.take (i * 5) ++ encE x ++ ROW.toList.drop (i * 5 + 5)).toArray := ⟨_, rfl⟩
  obtain ⟨W2, hW2⟩ : ∃ W2, W2 = W1.setRow w.heap.size R1 := ⟨_, rfl⟩
  have hcpA : ∀ ty dc, (Builtin.copy_ #[30, 30] ty #[.slice (some ⟨w.heap.size, i * 5, none⟩) (n + 1 - i) dc, .slice (some ⟨vb, 0, none⟩) 1 1]).run Try.prog W1 = .ok (goInt 1) W2 := fun ty dc => by
    have hm : Nat.min 1 (n + 1 - i) = 1 := Nat.min_eq_left (by omega)
    have := run_copy_rowK (P := Try.prog) W1 30 30 ty 41 w.heap.size (i * 5) (n + 1 - i) dc ⟨vb, 0, none⟩ 1 1 5 ROW 41 (encE x) Try.underlying30 Try.sizeEntry hb1 (by rw [hm, encE_len]) (box_vals ((hbel1.block vb hvw).trans hv)) (by rw [encE_len, hRs]; omega) (encE_one x)
    rw [hm, encE_len, ← hR1, ← hW2] at this
    exact this
  have hR1s : R1.size = G * 5 := by
    rw [hR1]
    have := splice_len ROW.toList (i * 5) (encE x) (by rw [encE_len, Array.length_toList, hRs]; omega)
    rw [encE_len] at this
    simpa [hRs] using this
  have hb2 : W2.heap[w.heap.size]? = some (.cells R1 41 (0, 0)) := by rw [hW2]; exact setRow_heap W1 w.heap.size _ _ 41 _ hb1
  have hbel2 : Below w.heap.size w W2 := by rw [hW2]; exact below_setRow hbel1 (Nat.le_refl _) _
  obtain ⟨R2, hR2⟩ : ∃ R2 : Array Value, R2 = (R1.toList.take ((i + 1) * 5) ++ evals (l.drop i) ++ R1.toList.drop ((i + 1) * 5 + (n - i) * 5)).toArray := ⟨_, rfl⟩
  obtain ⟨W3, hW3⟩ : ∃ W3, W3 = W2.drew.setRow w.heap.size R2 := ⟨_, rfl⟩
  have hcpB : ∀ ty dc sc, (Builtin.copy_ #[30, 30] ty #[.slice (some ⟨w.heap.size, (i + 1) * 5, none⟩) (n - i) dc, .slice (some ⟨g, i * 5, none⟩) (n - i) sc]).run Try.prog W2.drew = .ok (goInt ((n - i : Nat) : Int)) W3 := fun ty dc sc => by
    have hm : Nat.min (n - i) (n - i) = n - i := Nat.min_self _
    have := run_copy_rowK (P := Try.prog) W2.drew 30 30 ty 41 w.heap.size ((i + 1) * 5) (n - i) dc ⟨g, i * 5, none⟩ (n - i) sc 5 R1 41 (evals (l.drop i)) Try.underlying30 Try.sizeEntry hb2 (by rw [hm, hdi]) (fun j v hj => by
      rw [addr_add]
      show W2.cell? _ = _
      rw [hbel2.cell (p := ⟨g, i * 5 + j, none⟩) hgw]
      refine hcs _ v ?_
      rw [← (evals_split l i (by omega)).2, List.getElem?_drop] at hj
      exact hj) (by rw [hdi, hR1s]; omega) (evals_one _)
    rw [hm, hdi, ← hR2, ← hW3] at this
    exact this
  have R := hid (show OwnN W3 B 41 (.slice (some ⟨w.heap.size, 0, none⟩) (n + 1) G) (l.take i ++ x :: l.drop i) by
    have hlen := put_len5 l x i (by omega)
    rw [hn] at hlen
    have key := OwnN.mk (w := W3) (T := 41) (cap := G) (l := l.take i ++ x :: l.drop i) hB (cur := R2) (by rw [hW3]; exact setRow_heap W2.drew w.heap.size _ _ 41 _ hb2) (by omega) hG63 (by
      rw [hR2]
      have := splice_len R1.toList ((i + 1) * 5) (evals (l.drop i)) (by rw [hdi, Array.length_toList, hR1s]; omega)
      rw [hdi] at this
      simpa [hR1s] using this) (by
      rw [hlen, hR2, hR1]
      have := put_row ROW l x i (by omega) (by rw [hRs, hn]; omega) hRt
      rw [hn] at this
      exact this)
    rw [hlen] at key
    exact key)
  have RB := hid (show Below B w W3 by rw [hW3]; exact below_setRow ((hbel2.mono hB).drew) hB _)
  clear hW3 hR2 hb2 hbel2 hW2 hR1 hR1s hb1 hbel1 hW1 hRt hRs hROW hG hold hcs hti hdi h hv hz hzc hz0 hz1 hz2 hi0
  have hG63' : G ≤ 9223372036854775807 := by unfold maxLen at hG63; exact hG63
  clear hG63
  have hi1 : (i : Int) < (n : Int) := by omega
  have hi2 : ¬ (i : Int) = (n : Int) := by omega
  have hroom : (n : Int) < (n : Int) + 1 := by omega
  have hb3 : (i : Int) ≤ (n : Int) := by omega
  have hin : i ≤ n := by omega
  have hni : ¬ n = i := by omega
  have hGi : ¬ G = i := by omega
  have hGi1 : ¬ G = i + 1 := by omega
  have hw1 : IntKind.i64.wrap ((i : Int) + 1) = (i : Int) + 1 := by rw [IntKind.wrap_i64]; omega
  have hp1 : (0 : Int) ≤ (i : Int) + 1 := by omega
  have htn : ((i : Int) + 1).toNat = i + 1 := by omega
  have hi4 : (i : Int) + 1 ≤ (n : Int) + 1 := by omega
  have mixed : Try.prog.follows .mixedOrders = true := by kernel_rfl
  go_enter Try.func72, Try.ntmps72
  go_wp2_with (first
    | (at_builtin; refine Lib.wpList_append_run _ rfl _ _ _ _ rfl _ _ rfl rfl _ _ (hrz _) ?_)
    | (at_builtin; refine wpList_copyK _ rfl _ _ 30 30 rfl _ _ rfl rfl (hcpA _ _) ?_))
  go_region_law (refine step_copyK rfl _ _ 30 30 rfl (.slice (some ⟨w.heap.size, (i + 1) * 5, none⟩) (n - i) (G - (i + 1))) (.slice (some ⟨g, i * 5, none⟩) (n - i) (n - i)) (by simp [Act.eval, Act.put]) (by simp [Act.eval, Act.put]) (hcpB _ _ _) ?_)
  go_wp2
  go_ret
  exact ⟨_, rfl, R.out, RB.out⟩
end Go.Proofs.Ytcobehkadhcjiaa

/-
  slices.Insert at entries where there is room: in place; and at whatever row.
-/
namespace Go.Proofs.Ytcobehkadhcjiaa
open Go.RowKit

theorem put_row2 (cur : List Value) (l : List Plain.En) (x : Plain.En) (i : Nat) (hi : i < l.length) (hs : (l.length + 1) * 5 ≤ cur.length) (ht : cur.take (l.length * 5) = evals l) (R1 : List Value)
    (hR : R1 = cur.take ((i + 1) * 5) ++ evals (l.drop i) ++ cur.drop ((i + 1) * 5 + (l.length - i) * 5)) :
    (R1.take (i * 5) ++ encE x ++ R1.drop (i * 5 + 5)).take ((l.length + 1) * 5) = evals (l.take i ++ x :: l.drop i) := by
  have h1 : (cur.take ((i + 1) * 5)).length = (i + 1) * 5 := by rw [List.length_take]; omega
  have h4 : (evals (l.drop i)).length = (l.length - i) * 5 := by rw [evals_len, List.length_drop]
  have e1 : R1.take (i * 5) = evals (l.take i) := by
    rw [hR, List.append_assoc, List.take_append_of_le_length (by omega), List.take_take, Nat.min_eq_left (by omega), ← (evals_split l i (by omega)).1, ← ht, List.take_take, Nat.min_eq_left (by omega)]
  have e2 : R1.drop (i * 5 + 5) = evals (l.drop i) ++ cur.drop ((i + 1) * 5 + (l.length - i) * 5) := by
    rw [hR, List.append_assoc, List.drop_append_of_le_length (by omega), List.drop_of_length_le (by omega), List.nil_append]
  have h5 : (evals (l.take i)).length = i * 5 := by rw [evals_len, List.length_take]; omega
  rw [e1, e2, ← List.append_assoc, List.take_append_of_le_length (by rw [List.length_append, List.length_append, h5, h4, encE_len]; omega), List.take_of_length_le (by rw [List.length_append, List.length_append, h5, h4, encE_len]; omega), evals_app, evals_cons, List.append_assoc]

set_option maxHeartbeats 4000000 in
set_option maxRecDepth 100000 in
theorem insert_shift (g n c i vb B : Nat) (l : List Plain.En) (x : Plain.En) (w : World) (hn : l.length = n) (hi : i < n) (hl : n ≤ 1000) (hroom : n + 1 ≤ c) (_hB : B ≤ w.heap.size) (h : OwnN w B 41 (.slice (some ⟨g, 0, none⟩) n c) l) (hv : w.heap[vb]? = some (boxE x)) (hne : vb ≠ g) :
    Calls Try.prog 72 #[.slice (some ⟨g, 0, none⟩) n c, .int .i64 i, .slice (some ⟨vb, 0, none⟩) 1 1] w fun e w' =>
      ∃ v', e = .returned v' ∧ OwnN w' B 41 v' (l.take i ++ x :: l.drop i) ∧ Below B w w' := by
  have hcs := h.cells.vals
  simp only [Nat.zero_add] at hcs
  obtain ⟨g', c', cur, e, hBg, hb, _, hm, hs, ht⟩ := h.row (by omega)
  simp only [Value.slice.injEq, Option.some.injEq, Addr.mk.injEq, and_true] at e
  obtain ⟨rfl, hnl, rfl⟩ := e
  clear hnl
  have hdi : (evals (l.drop i)).length = (n - i) * 5 := by rw [evals_len, List.length_drop, hn]
  have hov : ∀ lb cb, (callFunc 83 #[.slice (some ⟨vb, 0, none⟩) 1 1, .slice (some ⟨g, (i + 1) * 5, none⟩) lb cb]).run Try.prog w = .ok (.value (.bool false)) w := fun lb cb => by
    rw [run_callFunc_extern Try.func83 (by kernel_rfl) (by kernel_rfl) (by kernel_rfl) (e := Extern.SlicesOverlaps.overlaps #[30, 30] #[4]) (by kernel_rfl),
      Lib.run_overlaps_apart w 30 4 41 Try.underlying30 5 Try.sizeOf41 ⟨vb, 0, none⟩ ⟨g, (i + 1) * 5, none⟩ 1 1 lb cb hne 41 41 5 (c * 5) (by simp [World.shape?, hv]) (by simp [World.shape?, hb, hs]) (by omega) (by simp [World.frozen?, hv]) (by simp [World.frozen?, hv])]
    rfl
  obtain ⟨R1, hR1⟩ : ∃ R1 : Array Value, R1 = (cur.toList.take ((i + 1) * 5) ++ evals (l.drop i) ++ cur.toList.drop ((i + 1) * 5 + (n - i) * 5)).toArray := ⟨_, rfl⟩
  obtain ⟨W2, hW2⟩ : ∃ W2, W2 = w.drew.setRow g R1 := ⟨_, rfl⟩
  have hcp1 : ∀ ty dc sc, (Builtin.copy_ #[30, 30] ty #[.slice (some ⟨g, (i + 1) * 5, none⟩) (n - i) dc, .slice (some ⟨g, i * 5, none⟩) (n + 1 - i) sc]).run Try.prog w.drew = .ok (goInt ((n - i : Nat) : Int)) W2 := fun ty dc sc => by
    have hmn : Nat.min (n + 1 - i) (n - i) = n - i := Nat.min_eq_right (by omega)
    have := run_copy_rowK (P := Try.prog) w.drew 30 30 ty 41 g ((i + 1) * 5) (n - i) dc ⟨g, i * 5, none⟩ (n + 1 - i) sc 5 cur 41 (evals (l.drop i)) Try.underlying30 Try.sizeEntry hb (by rw [hmn, hdi]) (fun j v hj => by
      rw [addr_add]
      refine hcs _ v ?_
      rw [← (evals_split l i (by omega)).2, List.getElem?_drop] at hj
      exact hj) (by rw [hdi, hs]; omega) (evals_one _)
    rw [hmn, hdi, ← hR1, ← hW2] at this
    exact this
  have hR1s : R1.size = c * 5 := by
    rw [hR1]
    have := splice_len cur.toList ((i + 1) * 5) (evals (l.drop i)) (by rw [hdi, Array.length_toList, hs]; omega)
    rw [hdi] at this
    simpa [hs] using this
  have hb2 : W2.heap[g]? = some (.cells R1 41 (0, 0)) := by rw [hW2]; exact setRow_heap w.drew g _ _ 41 _ hb
  have hv2 : W2.heap[vb]? = some (boxE x) := by rw [hW2]; exact (setRow_other w.drew g vb _ hne).trans hv
  have hbel2 : Below B w W2 := by rw [hW2]; exact below_setRow ((Below.refl _ _).drew) hBg _
  obtain ⟨R2, hR2⟩ : ∃ R2 : Array Value, R2 = (R1.toList.take (i * 5) ++ encE x ++ R1.toList.drop (i * 5 + 5)).toArray := ⟨_, rfl⟩
  obtain ⟨W3, hW3⟩ : ∃ W3, W3 = W2.setRow g R2 := ⟨_, rfl⟩
  have hcp2 : ∀ ty dc, (Builtin.copy_ #[30, 30] ty #[.slice (some ⟨g, i * 5, none⟩) (n + 1 - i) dc, .slice (some ⟨vb, 0, none⟩) 1 1]).run Try.prog W2 = .ok (goInt 1) W3 := fun ty dc => by
    have hmn : Nat.min 1 (n + 1 - i) = 1 := Nat.min_eq_left (by omega)
    have := run_copy_rowK (P := Try.prog) W2 30 30 ty 41 g (i * 5) (n + 1 - i) dc ⟨vb, 0, none⟩ 1 1 5 R1 41 (encE x) Try.underlying30 Try.sizeEntry hb2 (by rw [hmn, encE_len]) (box_vals hv2) (by rw [encE_len, hR1s]; omega) (encE_one x)
    rw [hmn, encE_len, ← hR2, ← hW3] at this
    exact this
  have R := hid (show OwnN W3 B 41 (.slice (some ⟨g, 0, none⟩) (n + 1) c) (l.take i ++ x :: l.drop i) by
    have hlen := put_len5 l x i (by omega)
    rw [hn] at hlen
    have key := OwnN.mk (w := W3) (T := 41) (cap := c) (l := l.take i ++ x :: l.drop i) hBg (cur := R2) (by rw [hW3]; exact setRow_heap W2 g _ _ 41 _ hb2) (by omega) hm (by
      rw [hR2]
      have := splice_len R1.toList (i * 5) (encE x) (by rw [encE_len, Array.length_toList, hR1s]; omega)
      rw [encE_len] at this
      simpa [hR1s] using this) (by
      rw [hlen, hR2]
      have := put_row2 cur.toList l x i (by omega) (by have hcl : cur.toList.length = c * 5 := Array.length_toList.trans hs; rw [hcl, hn]; omega) ht R1.toList (by rw [hR1, hn])
      rw [hn] at this
      exact this)
    rw [hlen] at key
    exact key)
  have RB := hid (show Below B w W3 by rw [hW3]; exact below_setRow hbel2 hBg _)
  have hc63 : c ≤ 9223372036854775807 := hm
  clear hW3 hR2 hb2 hv2 hbel2 hW2 hR1 hR1s hcs hdi h hv hb hm hs ht
  have hi1 : (i : Int) < (n : Int) := by omega
  have hi2 : ¬ (i : Int) = (n : Int) := by omega
  have hrm : ¬ (c : Int) < (n : Int) + 1 := by omega
  have hrm' : (n : Int) + 1 ≤ (c : Int) := by omega
  have hb3 : (i : Int) ≤ (n : Int) := by omega
  have hin : i ≤ n := by omega
  have hci : ¬ c = i := by omega
  have hci1 : ¬ c = i + 1 := by omega
  have hw1 : IntKind.i64.wrap ((i : Int) + 1) = (i : Int) + 1 := by rw [IntKind.wrap_i64]; omega
  have hp1 : (0 : Int) ≤ (i : Int) + 1 := by omega
  have hp2 : (0 : Int) ≤ (n : Int) + 1 := by omega
  have htn : ((i : Int) + 1).toNat = i + 1 := by omega
  have htn2 : ((n : Int) + 1).toNat = n + 1 := by omega
  have hi4 : (i : Int) + 1 ≤ (n : Int) + 1 := by omega
  have hi5 : (i : Int) ≤ (n : Int) + 1 := by omega
  have mixed : Try.prog.follows .mixedOrders = true := by kernel_rfl
  go_enter Try.func72, Try.ntmps72
  go_wp2_with (simp only [hov])
  go_region_law (refine step_copyK rfl _ _ 30 30 rfl (.slice (some ⟨g, (i + 1) * 5, none⟩) (n - i) (c - (i + 1))) (.slice (some ⟨g, i * 5, none⟩) (n + 1 - i) (c - i)) (by simp [Act.eval, Act.put]) (by simp [Act.eval, Act.put]) (hcp1 _ _ _) ?_)
  go_wp2_with (at_builtin; refine wpList_copyK _ rfl _ _ 30 30 rfl _ _ rfl rfl (hcp2 _ _) ?_)
  go_ret
  exact ⟨_, rfl, R.out, RB.out⟩

/-- Insert of one entry, at whatever place of whatever row of the call's own. -/
theorem insert_any (v : Value) (i vb B : Nat) (l : List Plain.En) (x : Plain.En) (w : World) (hi : i ≤ l.length) (hl : l.length ≤ 1000) (hB : B ≤ w.heap.size) (h : OwnN w B 41 v l) (hv : w.heap[vb]? = some (boxE x)) (hne : ∀ g n c, v = .slice (some ⟨g, 0, none⟩) n c → vb ≠ g) :
    Calls Try.prog 72 #[v, .int .i64 (i : Nat), .slice (some ⟨vb, 0, none⟩) 1 1] w fun e w' =>
      ∃ v', e = .returned v' ∧ OwnN w' B 41 v' (l.take i ++ x :: l.drop i) ∧ Below B w w' := by
  by_cases he : i = l.length
  · subst he
    have := insert_end v vb B l x w hl hB h hv
    rw [List.take_length, List.drop_length]
    exact this
  · obtain ⟨g, c, rfl, _, _, hc, _⟩ := h.at (by omega)
    by_cases hr : l.length + 1 ≤ c
    · exact insert_shift g l.length c i vb B l x w rfl (by omega) hl hr hB h hv (hne g _ _ rfl)
    · obtain rfl : c = l.length := by omega
      exact insert_grow g l.length i vb B l x w rfl (by omega) hl hB h hv
end Go.Proofs.Ytcobehkadhcjiaa

/-
  Calls that lay blocks of their own, inside a region that draws its order.
-/
namespace Go.Proofs.Ytcobehkadhcjiaa
open Go.RowKit Go.Sort

theorem two_grown (w : World) (a b : Obj) : (w.alloc a).alloc b = grow (w.drewN 0) #[a, b] := by
  rw [alloc_eq_grow, alloc_eq_grow, grow_grow]
  rfl
/-- The cells of an entry, whatever is laid behind. -/
theorem CellN.grown {w : World} {b o : Nat} {e : Plain.En} (h : CellN w b o e) (n : Nat) (os : Array Obj) : CellN (grow (w.drewN n) os) b o e :=
  ⟨cell_grown h.lt h.c0 n os, cell_grown h.lt h.c1 n os, cell_grown h.lt h.c2 n os, cell_grown h.lt h.c3 n os, cell_grown h.lt h.c4 n os⟩
theorem below_grow {B : Nat} {w w' : World} (h : Below B w w') (hB : B ≤ w'.heap.size) (n : Nat) (os : Array Obj) : Below B w (grow (w'.drewN n) os) :=
  h.trans ⟨rfl, rfl, rfl, by show w'.heap.size ≤ (w'.heap ++ os).size; simp, fun k hk => by
    show (w'.heap ++ os)[k]? = w'.heap[k]?
    rw [Array.getElem?_append_left (by omega)]⟩
theorem newer_g (a b : Plain.En) (w : World) :
    Calls Try.prog 73 #[aggE a, aggE b] w fun e w' => e = .returned (.bool (Plain.newer a b)) ∧ ∃ q os', w' = grow (w.drewN q) os' :=
  (newer_c a b w).mono fun _ _ ⟨h1, h2⟩ => ⟨h1, 0, _, h2.trans (two_grown _ _ _)⟩
end Go.Proofs.Ytcobehkadhcjiaa
