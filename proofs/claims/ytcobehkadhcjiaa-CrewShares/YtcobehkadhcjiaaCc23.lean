/-
  Goroutines among others: part 23 of what the law's own text rests on.
-/
import Derived.Test.YtcobehkadhcjiaaCc13
import Derived.Test.YtcobehkadhcjiaaCc22
import Derived.Deep.LoopGhost
import Derived.Deep.QuietTactic
import Derived.BigQuiet
import Derived.Shelf.Abstract
/-
  Rows of numbers in blocks of their own.
-/
namespace Go.Proofs.Ytcobehkadhcjiaa
open Go.RowKit

/-- A row of numbers in a block of its own. -/
def RowI (w : World) (b : Nat) (l : List Int) : Prop :=
  ∃ cur, w.heap[b]? = some (.cells cur 3 (0, 0)) ∧ l.length ≤ cur.size ∧ ∀ i, i < l.length → cur[i]? = some (.int .i64 (l.getD i 0))

namespace RowI
variable {w w' : World} {b : Nat} {l : List Int}
theorem cell (h : RowI w b l) {i : Nat} (hi : i < l.length) : w.cell? ⟨b, i, none⟩ = some (.int .i64 (l.getD i 0)) := by
  obtain ⟨c, hb, _, hc⟩ := h
  simp only [World.cell?, hb, hc i hi]
  rfl
theorem frozen (h : RowI w b l) (i : Nat) : w.frozen? ⟨b, i, none⟩ = false := by
  obtain ⟨c, hb, _, _⟩ := h
  simp [World.frozen?, hb]
theorem lt (h : RowI w b l) : b < w.heap.size := by
  obtain ⟨c, hb, _, _⟩ := h
  obtain ⟨hlt, _⟩ := Array.getElem?_eq_some_iff.1 hb
  exact hlt
theorem of_block (h : RowI w b l) (e : w'.heap[b]? = w.heap[b]?) : RowI w' b l := by
  obtain ⟨c, hb, hn, hc⟩ := h
  exact ⟨c, e.trans hb, hn, hc⟩
theorem below {B : Nat} (h : RowI w b l) (hb : Below B w w') (hlt : b < B) : RowI w' b l := h.of_block (hb.block b hlt)
theorem other (h : RowI w b l) {a : Addr} (ha : b ≠ a.block) (v : Value) : RowI (w.setCell a v) b l := h.of_block (Below.heap_setCell _ _ _ _ ha)
theorem set (h : RowI w b l) (i : Nat) (hi : i < l.length) (x : Int) : RowI (w.setCell ⟨b, i, none⟩ (.int .i64 x)) b (l.set i x) := by
  obtain ⟨c, hb, hn, hc⟩ := h
  refine ⟨c.setIfInBounds i (.int .i64 x), ?_, by simpa using hn, fun j hj => ?_⟩
  · simp [World.setCell, Array.getElem?_modify, hb]
  · rw [List.length_set] at hj
    rw [Array.getElem?_setIfInBounds]
    by_cases e : i = j
    · subst e
      rw [if_pos rfl, if_pos (by omega)]
      simp [List.getD_eq_getElem?_getD, hi]
    · rw [if_neg e, hc j hj]
      simp [List.getD_eq_getElem?_getD, e]
theorem of_rowIs {n : Nat} {f : Nat → Value} (h : w.rowIs b 3 n f) (hl : l.length ≤ n) (hf : ∀ i, i < l.length → f i = .int .i64 (l.getD i 0)) : RowI w b l := by
  obtain ⟨c, hb, hn, hc⟩ := h
  exact ⟨c, hb, by omega, fun i hi => by rw [hc i (by omega), hf i hi]⟩
theorem seg (h : RowI w b l) (cap : Nat) : Seg w (.slice (some ⟨b, 0, none⟩) l.length cap) l :=
  .inr ⟨b, 0, cap, rfl, fun j hj => by rw [Nat.zero_add]; exact h.cell hj⟩
theorem lies (h : RowI w b l) (n cap : Nat) : Lies w.heap.size (.slice (some ⟨b, 0, none⟩) n cap) := lies_at h.lt
/-- What an append laid, as a row. -/
theorem of_owns {B n g cap : Nat} {xs : List Value} (h : w.ownsRow B 3 1 (.slice (some ⟨g, 0, none⟩) n cap) n xs) (hn : l.length = n) (hx : xs = l.map (Value.int .i64)) : RowI w g l ∧ B ≤ g := by
  rcases h.2 with ⟨e, _⟩ | ⟨g', cap', cur, e, hg, hb, h1, _, h3, h4⟩
  · cases e
  · injection e with e1 _ _
    injection e1 with e1
    injection e1 with e1 _ _
    subst e1
    refine ⟨⟨cur, hb, by omega, fun i hi => ?_⟩, hg⟩
    have h5 : (cur.toList.take (n * 1))[i]? = some (.int .i64 (l.getD i 0)) := by rw [h4, hx]; simp [hi]
    rw [List.getElem?_take, if_pos (by omega)] at h5
    rw [← Array.getElem?_toList]
    exact h5
end RowI
end Go.Proofs.Ytcobehkadhcjiaa

/-
  Contracts of what share.Split hands on: isCount, its literals, slices.ContainsFunc, together, sort.Search.
-/
namespace Go.Proofs.Ytcobehkadhcjiaa.Bo
open Go.RowKit Go.Shelf

/-- min of a number and another one, as an operation of the walk. -/
theorem wpList_minK {P : Program} (w : World) {ops : Array Oper} {rest : List Oper} {o : Oper} {a : Act} {Q : Exit → Act → World → Prop} (hgd : o.guard = none) (d s : Operand) (t t' : TypeId)
    (ho : o.op = .call { callee := .builtin .min, args := #[d, s], argTypes := #[t, t'] }) (x y z : Int) (hd : a.eval d = .int .i64 x) (hs : a.eval s = .int .i64 y) (hz : (if y < x then y else x) = z)
    (h : wpList P ops Q rest (a.put o.dst (.int .i64 z)) w) : wpList P ops Q (o :: rest) a w :=
  wpList_plain hgd fun _ hK => by
    have hr : (Builtin.min_ #[t, t'] o.type #[.int .i64 x, .int .i64 y]).run P w = .ok (.int .i64 z) w := by
      simp [Builtin.min_, Builtin.min2, hz]
    unfold Oper.wp execOp
    simp only [ho, resolve, invoke, builtin, Sem.run_bind, Sem.run_pure, Result.andThen_ok, List.map_toArray, List.map_cons, List.map_nil, hd, hs, hr]
    exact hK _ _ h
theorem min_if (x y : Int) : (if y < x then y else x) = min x y := by split <;> omega

namespace Plain
/-- The first place at which p holds, or -1. -/
def idxA {α : Type} (p : α → Bool) (l : List α) : Int := if l.findIdx p < l.length then (l.findIdx p : Nat) else -1
theorem getD_lt {α : Type} (l : List α) (d : α) (k : Nat) (hk : k < l.length) : l.getD k d = l[k] := by
  rw [List.getD_eq_getElem?_getD, List.getElem?_eq_getElem hk]; rfl
theorem idxA_hit {α : Type} {p : α → Bool} {l : List α} {d : α} {k : Nat} (hk : k < l.length) (h : p (l.getD k d) = true) (ha : ∀ j, j < k → p (l.getD j d) = false) : idxA p l = k := by
  have e : l.findIdx p = k := by
    rw [List.findIdx_eq hk]
    rw [getD_lt _ _ _ hk] at h
    refine ⟨h, fun j hj => ?_⟩
    have := ha j hj
    rw [getD_lt _ _ _ (by omega)] at this
    exact this
  unfold idxA
  rw [e, if_pos hk]
theorem idxA_miss {α : Type} {p : α → Bool} {l : List α} {d : α} (ha : ∀ j, j < l.length → p (l.getD j d) = false) : idxA p l = -1 := by
  have e : l.findIdx p = l.length := List.findIdx_eq_length.2 fun x hx => by
    obtain ⟨j, hj, rfl⟩ := List.getElem_of_mem hx
    have := ha j hj
    rw [getD_lt _ _ _ hj] at this
    exact this
  unfold idxA
  rw [e, if_neg (by omega)]
theorem idxA_any {α : Type} (p : α → Bool) (l : List α) : decide (0 ≤ idxA p l) = l.any p := by
  unfold idxA
  by_cases h : l.findIdx p < l.length
  · rw [if_pos h, List.any_eq_true.2 ⟨l[l.findIdx p], List.getElem_mem h, List.findIdx_getElem⟩]
    simp
  · rw [if_neg h]
    have : l.any p = false := by
      rw [List.any_eq_false]
      intro x hx hp
      exact h (List.findIdx_lt_length_of_exists ⟨x, hx, hp⟩)
    rw [this]
    rfl
end Plain

theorem ret_int {k : IntKind} {x y : Int} (h : x = y) : Ending.returned (.int k x) = .returned (.int k y) := by rw [h]
theorem ret_bool {x y : Bool} (h : x = y) : Ending.returned (.bool x) = .returned (.bool y) := by rw [h]
/-- A slice that holds numbers, in one form. -/
def Wants (w : World) (p : Option Addr) (l : List Int) : Prop :=
  0 < l.length → ∃ b off, p = some ⟨b, off, none⟩ ∧ b < w.heap.size ∧ ∀ j, j < l.length → w.cell? ⟨b, off + j, none⟩ = some (.int .i64 (l.getD j 0))
theorem seg_wants {w : World} {v : Value} {l : List Int} (h : Seg w v l) (hv : Lies w.heap.size v) : ∃ p c, v = .slice p l.length c ∧ Wants w p l := by
  rcases h with ⟨rfl, p, c, rfl⟩ | ⟨b, off, c, rfl, g⟩
  · exact ⟨p, c, rfl, fun h => absurd h (by simp)⟩
  · exact ⟨_, c, rfl, fun h => ⟨b, off, rfl, hv _ _ _ rfl h, g⟩⟩
theorem Wants.seg {w : World} {p : Option Addr} {l : List Int} (h : Wants w p l) (c : Nat) : Seg w (.slice p l.length c) l ∧ Lies w.heap.size (.slice p l.length c) := by
  by_cases h0 : 0 < l.length
  · obtain ⟨b, off, rfl, hb, g⟩ := h h0
    exact ⟨.inr ⟨b, off, c, rfl, g⟩, lies_at hb⟩
  · have : l = [] := List.length_eq_zero_iff.1 (by omega)
    subst this
    exact ⟨.inl ⟨rfl, p, c, rfl⟩, lies_nil _ _ _⟩
theorem Wants.grow {w w' : World} {p : Option Addr} {l : List Int} (h : Wants w p l) (g : Below w.heap.size w w') : Wants w' p l := fun h0 => by
  obtain ⟨b, off, rfl, hb, hc⟩ := h h0
  exact ⟨b, off, rfl, Nat.lt_of_lt_of_le hb g.size, fun j hj => (g.cell (p := ⟨b, off + j, none⟩) hb).trans (hc j hj)⟩
theorem Wants.drew {w : World} {p : Option Addr} {l : List Int} (h : Wants w p l) (q : Nat) : Wants (w.drewN q) p l := fun h0 => by
  obtain ⟨b, off, rfl, hb, hc⟩ := h h0
  exact ⟨b, off, rfl, hb, fun j hj => by simpa using hc j hj⟩

set_option maxHeartbeats 400000 in
theorem isCount_c (x : Int) (w : World) : Calls Try.prog 49 #[.int .i64 x] w fun e w' => e = .returned (.bool (!Plain.badC x)) ∧ w' = w := by
  by_cases h0 : 0 ≤ x
  · by_cases h1 : x ≤ 1048576
    · rw [Plain.badC_no.2 ⟨h0, h1⟩]
      go_enter Try.func49, Try.ntmps49
      go_wp2
      go_ret
      exact ⟨rfl, rfl⟩
    · rw [Plain.badC_yes.2 (.inr (by omega))]
      go_enter Try.func49, Try.ntmps49
      go_wp2
      go_ret
      exact ⟨rfl, rfl⟩
  · rw [Plain.badC_yes.2 (.inl (by omega))]
    go_enter Try.func49, Try.ntmps49
    go_wp2
    go_ret
    exact ⟨rfl, rfl⟩

set_option maxHeartbeats 400000 in
theorem badC_c (x : Int) (w : World) : Calls Try.prog 51 #[.int .i64 x] w fun e w' => e = .returned (.bool (Plain.badC x)) ∧ w' = w := by
  have K := isCount_c x w
  generalize Plain.badC x = r at K ⊢
  go_enter Try.func51, Try.ntmps51
  go_wp2_with fail
  refine K.mono ?_
  rintro e w' ⟨rfl, rfl⟩
  clear K
  cases r
  all_goals (go_wp2; go_ret; exact ⟨rfl, rfl⟩)

set_option maxHeartbeats 2000000 in
theorem indexC_c (p : Option Addr) (n c : Nat) (l : List Int) (w : World) (hn : l.length = n) (hbig : n ≤ 9223372036854775807) (hp : Wants w p l) :
    Calls Try.prog 78 #[.slice p n c, .func (.func 51) #[] #[]] w fun e w' => e = .returned (.int .i64 (Plain.idxA Plain.badC l)) ∧ w' = w := by
  have HP := hid hp
  have HN := hid hn
  clear hp hn
  go_enter Try.func78, Try.ntmps78
  go_wp2
  go_loopg [5, 8] n (fun gg _ s8 wr => ∃ kk : Nat, kk ≤ n ∧ n - kk ≤ gg ∧ s8 = .int .i64 kk ∧ wr = w ∧ Aside (∀ j, j < kk → Plain.badC (l.getD j 0) = false))
  case atStart => exact ⟨0, Nat.zero_le _, by omega, rfl, rfl, fun j hj => absurd hj (Nat.not_lt_zero _)⟩
  case round =>
    obtain ⟨kk, hkk, hg, rfl, rfl, A⟩ := hrel
    by_cases hlt : kk < n
    · have hltz : (kk : Int) < (n : Int) := by omega
      obtain ⟨b, off, rfl, _, hc⟩ := HP.out (by rw [HN.out]; omega)
      have c0 := hc kk (by rw [HN.out]; exact hlt)
      clear hc
      have hcall := badC_c (l.getD kk 0) wr
      generalize hy : l.getD kk 0 = y at c0 hcall
      have HY : Aside (l.getD kk 0 = y) := hy
      clear hy
      cases hq : Plain.badC y with
      | true =>
        rw [hq] at hcall
        go_wp2_with fail
        refine hcall.mono ?_
        rintro e w' ⟨rfl, rfl⟩
        clear hcall
        go_wp2
        go_ret
        refine ⟨?_, rfl⟩
        rw [Plain.idxA_hit (d := 0) (by have := HN.out; omega) (by rw [HY.out]; exact hq) A.out]
        rfl
      | false =>
        rw [hq] at hcall
        go_wp2_with fail
        refine hcall.mono ?_
        rintro e w' ⟨rfl, rfl⟩
        clear hcall
        go_wp2
        go_roundg (n - (kk + 1))
        case measure => omega
        case rel =>
          refine ⟨kk + 1, by omega, by omega, by go_num, rfl, (show Aside _ from fun j hj => ?_)⟩
          by_cases e : j = kk
          · subst e
            rw [HY.out]; exact hq
          · exact A.out j (by omega)
    · have hltz : ¬ (kk : Int) < (n : Int) := by omega
      have : kk = n := by omega
      subst this
      go_wp2
      go_ret
      refine ⟨?_, rfl⟩
      rw [Plain.idxA_miss (d := 0) (fun j hj => A.out j (by have := HN.out; omega))]
      rfl

theorem containsC (p : Option Addr) (n c : Nat) (l : List Int) (w : World) (hn : l.length = n) (hbig : n ≤ 9223372036854775807) (hp : Wants w p l) :
    Calls Try.prog 50 #[.slice p n c, .func (.func 51) #[] #[]] w fun e w' => e = .returned (.bool (l.any Plain.badC)) ∧ w' = w := by
  rw [← Plain.idxA_any]
  have K := indexC_c p n c l w hn hbig hp
  clear hp hn
  generalize Plain.idxA Plain.badC l = r at K ⊢
  go_enter Try.func50, Try.ntmps50
  go_wp2_with fail
  refine K.mono ?_
  rintro e w' ⟨rfl, rfl⟩
  clear K
  go_wp2
  go_ret
  exact ⟨rfl, rfl⟩

set_option maxHeartbeats 2000000 in
theorem together_c (p : Option Addr) (n c : Nat) (l : List Int) (L : Int) (hL : 0 ≤ L) (hL2 : L ≤ 1048577) (hw : Plain.Wm l) (w : World) (hn : l.length = n) (hbig : n ≤ 16) (hp : Wants w p l) :
    Calls Try.prog 54 #[.slice p n c, .int .i64 L] w fun e w' => e = .returned (.int .i64 (Plain.sm L l)) ∧ w' = w := by
  have HP := hid hp
  have HN := hid hn
  have HW := hid hw
  clear hp hn hw
  go_enter Try.func54, Try.ntmps54
  go_wp2
  go_loopg [5, 10] n (fun gg s5 s10 wr => ∃ (k : Nat) (S : Int), k ≤ n ∧ n - k ≤ gg ∧ s10 = .int .i64 k ∧ s5 = .int .i64 S ∧ wr = w ∧ Aside (S = Plain.sm L (l.take k)))
  case atStart => exact ⟨0, 0, Nat.zero_le _, by omega, rfl, rfl, rfl, rfl⟩
  case round =>
    obtain ⟨k, S, hkk, hg, rfl, rfl, rfl, A⟩ := hrel
    by_cases hlt : k < n
    · have hltz : (k : Int) < (n : Int) := by omega
      obtain ⟨b, off, rfl, _, hc⟩ := HP.out (by rw [HN.out]; omega)
      have c0 := hc k (by rw [HN.out]; exact hlt)
      clear hc
      have hS := Plain.sm_bd (Plain.wm_take HW.out k) hL
      rw [← A.out, List.length_take] at hS
      have hS2 : 0 ≤ S ∧ S ≤ 16777216 := by omega
      clear hS
      have hy0 := HW.out _ (Plain.mem_getD (show k < l.length by rw [HN.out]; exact hlt))
      have hst := hid (Plain.sm_next L l k (by rw [HN.out]; exact hlt))
      generalize hy : l.getD k 0 = y at c0 hy0 hst
      clear hy
      by_cases hm : L < y
      · have hst2 := hid (show Plain.sm L (l.take (k + 1)) = S + L by rw [hst.out, ← A.out]; omega)
        clear hst
        go_wp2
        go_roundg (n - (k + 1))
        case measure => omega
        case rel => exact ⟨k + 1, S + L, by omega, by omega, by go_num, rfl, rfl, hst2.out.symm⟩
      · have hst2 := hid (show Plain.sm L (l.take (k + 1)) = S + y by rw [hst.out, ← A.out]; omega)
        clear hst
        go_wp2
        go_roundg (n - (k + 1))
        case measure => omega
        case rel => exact ⟨k + 1, S + y, by omega, by omega, by go_num, rfl, rfl, hst2.out.symm⟩
    · have hltz : ¬ (k : Int) < (n : Int) := by omega
      have hk : k = n := by omega
      have F := hid (show Plain.sm L l = S by rw [A.out, List.take_of_length_le (by rw [HN.out]; omega)])
      go_wp2
      go_ret
      exact ⟨ret_int F.out.symm, rfl⟩

set_option maxHeartbeats 1000000 in
/-- The search's literal: do all want more than there is, each no more than the level and one? -/
theorem more_c (bw bt : Nat) (p : Option Addr) (c : Nat) (l : List Int) (t : Int) (i : Nat) (hi : i < 1048576) (hw : Plain.Wm l) (w : World) (hbig : l.length ≤ 16) (hp : Wants w p l)
    (hb : w.cell? ⟨bw, 0, none⟩ = some (.slice p l.length c)) (ht : w.cell? ⟨bt, 0, none⟩ = some (.int .i64 t)) :
    Calls Try.prog 53 #[.int .i64 i, .pointer (some ⟨bw, 0, none⟩), .pointer (some ⟨bt, 0, none⟩)] w fun e w' => e = .returned (.bool (decide (t < Plain.sm ((i : Int) + 1) l))) ∧ ∃ q, w' = w.drewN q := by
  have K := fun q => together_c p l.length c l ((i : Int) + 1) (by omega) (by omega) hw (w.drewN q) rfl hbig (hp.drew q)
  clear hp hw
  generalize Plain.sm ((i : Int) + 1) l = S at K ⊢
  generalize l.length = n at *
  go_enter Try.func53, Try.ntmps53
  go_wp2
  go_quiet ((go_at_call 54; exact Calls.quiet_of_same (K _)))
  go_wp2
  go_ret
  exact ⟨rfl, _, rfl⟩
end Go.Proofs.Ytcobehkadhcjiaa.Bo
