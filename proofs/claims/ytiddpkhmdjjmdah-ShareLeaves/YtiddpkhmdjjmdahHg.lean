/-
  What the laws on shares lean on: the wants and one more, sums, what one gets.
-/
import Derived.Test.YtiddpkhmdjjmdahHn
namespace Go.Proofs.Ytiddpkhmdjjmdah
open Go.RowKit Go.Shelf

namespace Plain
theorem sumL_app (a b : List Int) : sumL (a ++ b) = sumL a + sumL b := by
  induction a with
  | nil => simp [sumL]
  | cons w a ih => simp only [List.cons_append, sumL, ih]; omega
theorem sumL_next (ws : List Int) (k : Nat) (hk : k < ws.length) : sumL (ws.take (k + 1)) = sumL (ws.take k) + ws.getD k 0 := by
  rw [take_next' ws k hk, sumL_app]; simp [sumL]
/-- Wants that are small. -/
def Small (ws : List Int) : Prop := ∀ w, w ∈ ws → 0 ≤ w ∧ w ≤ 1000
theorem Small.wm {ws : List Int} (h : Small ws) : Wm ws := fun w hw => by have := h w hw; omega
theorem sumL_bd {ws : List Int} (h : Small ws) : 0 ≤ sumL ws ∧ sumL ws ≤ 1000 * ws.length := by
  induction ws with
  | nil => simp [sumL]
  | cons w ws ih =>
    have h1 := h w (List.mem_cons_self ..)
    have h2 := ih fun x hx => h x (List.mem_cons_of_mem _ hx)
    simp only [sumL, List.length_cons]; omega
theorem small_take {ws : List Int} (h : Small ws) (k : Nat) : Small (ws.take k) := fun w hw => h w (List.mem_of_mem_take hw)
theorem sumL_tk {ws : List Int} (h : Small ws) (k : Nat) : 0 ≤ sumL (ws.take k) ∧ sumL (ws.take k) ≤ 1000 * ws.length := by
  have h1 := sumL_bd (small_take h k)
  rw [List.length_take] at h1
  omega
theorem small_split {t : Int} {ws : List Int} (h : Small ws) (h0 : 0 ≤ t) : Small (splitL t ws) := fun w hw => by
  obtain ⟨j, hj, rfl⟩ := List.getElem_of_mem hw
  have hj2 : j < ws.length := by rwa [split_len] at hj
  have h1 := split_bd h.wm h0 j hj2
  have h2 := h _ (mem_getD hj2)
  rw [getD_lt _ _ _ hj] at h1
  omega
theorem small_want (l : List Int) : Small (wantL l) := fun w hw => by have := wantL_bd l w hw; omega
theorem small_plus (l : List Int) (x : Int) (h0 : 0 ≤ x) (h1 : x ≤ 1000) : Small (wantL l ++ [x]) := fun w hw => by
  rcases List.mem_append.1 hw with h | h
  · exact small_want l w h
  · have : w = x := by simpa using h
    omega
theorem small_set {ws : List Int} (h : Small ws) (i : Nat) (x : Int) (h0 : 0 ≤ x) (h1 : x ≤ 1000) : Small (ws.set i x) := fun w hw => by
  rcases List.mem_or_eq_of_mem_set hw with h2 | h2
  · exact h w h2
  · omega
theorem splitE_small {t : Int} {ws : List Int} (h : Small ws) (hl : ws.length ≤ 16) (h0 : 0 ≤ t) (h1 : t ≤ 1000) : splitE t ws = 0 := splitE_ok hl ⟨h0, by omega⟩ h.wm
/-- Two that change places. -/
def swp (ws : List Int) (i k : Nat) : List Int := (ws.set i (ws.getD k 0)).set k (ws.getD i 0)
theorem swp_len (ws : List Int) (i k : Nat) : (swp ws i k).length = ws.length := by simp [swp]
theorem getD_set (ws : List Int) (i j : Nat) (x : Int) (hi : i < ws.length) : (ws.set i x).getD j 0 = if i = j then x else ws.getD j 0 := by
  by_cases e : i = j
  · subst e
    rw [if_pos rfl, List.getD_eq_getElem?_getD, List.getElem?_set, if_pos rfl, if_pos hi]; rfl
  · rw [if_neg e, List.getD_eq_getElem?_getD, List.getElem?_set, if_neg e, List.getD_eq_getElem?_getD]
theorem swp_at (ws : List Int) (i k j : Nat) (hi : i < ws.length) (hk : k < ws.length) : (swp ws i k).getD j 0 = if k = j then ws.getD i 0 else if i = j then ws.getD k 0 else ws.getD j 0 := by
  unfold swp
  rw [getD_set _ _ _ _ (by simpa using hk), getD_set _ _ _ _ hi]
theorem swp_sm (L : Int) (ws : List Int) (i k : Nat) (hi : i < ws.length) (hk : k < ws.length) : sm L (swp ws i k) = sm L ws := by
  unfold swp
  rw [sm_set L _ _ k (by simpa using hk), sm_set L _ _ i hi, getD_set _ _ _ _ hi]
  by_cases e : i = k
  · subst e; rw [if_pos rfl]; omega
  · rw [if_neg e]; omega
theorem swp_sum (ws : List Int) (i k : Nat) (hi : i < ws.length) (hk : k < ws.length) : sumL (swp ws i k) = sumL ws := by
  unfold swp
  rw [sumL_set _ _ k (by simpa using hk), sumL_set _ _ i hi, getD_set _ _ _ _ hi]
  by_cases e : i = k
  · subst e; rw [if_pos rfl]; omega
  · rw [if_neg e]; omega
theorem swp_small {ws : List Int} (h : Small ws) (i k : Nat) (hi : i < ws.length) (hk : k < ws.length) : Small (swp ws i k) := by
  have h1 := h _ (mem_getD hi)
  have h2 := h _ (mem_getD hk)
  exact small_set (small_set h i _ h2.1 h2.2) k _ h1.1 h1.2
/-- Where the one that stood at j stands now. -/
def trn (i k j : Nat) : Nat := if j = i then k else if j = k then i else j
theorem trn_lt {n i k j : Nat} (hi : i < n) (hk : k < n) (hj : j < n) : trn i k j < n := by unfold trn; split <;> (try split) <;> omega
theorem swp_trn (ws : List Int) (i k j : Nat) (hi : i < ws.length) (hk : k < ws.length) : (swp ws i k).getD (trn i k j) 0 = ws.getD j 0 := by
  rw [swp_at _ _ _ _ hi hk]
  unfold trn
  by_cases h1 : j = i
  · rw [if_pos h1, if_pos rfl, h1]
  · rw [if_neg h1]
    by_cases h2 : j = k
    · rw [if_pos h2, if_neg (by omega), if_pos rfl, h2]
    · rw [if_neg h2, if_neg (by omega), if_neg (by omega)]
theorem split_swp {t : Int} {ws : List Int} (h : Small ws) (h0 : 0 ≤ t) (i k j : Nat) (hi : i < ws.length) (hk : k < ws.length) (hj : j < ws.length) :
    (splitL t ws).getD j 0 - (splitL t (swp ws i k)).getD (trn i k j) 0 ≤ 1 ∧ (splitL t (swp ws i k)).getD (trn i k j) 0 - (splitL t ws).getD j 0 ≤ 1 :=
  split_turn h.wm (swp_small h i k hi hk).wm h0 (fun L => swp_sm L ws i k hi hk) (swp_sum ws i k hi hk) j (trn i k j) hj (by rw [swp_len]; exact trn_lt hi hk hj) (swp_trn ws i k j hi hk)
theorem sumL_one {ws : List Int} (h : Small ws) (i : Nat) (hi : i < ws.length) : ws.getD i 0 ≤ sumL ws := by
  have h1 := sumL_erase ws i hi
  have h2 := (sumL_bd (ws := ws.eraseIdx i) fun w hw => h w (List.mem_of_mem_eraseIdx hw)).1
  omega
theorem split_le {t : Int} {ws : List Int} (h : Small ws) (h0 : 0 ≤ t) (i : Nat) (hi : i < ws.length) : (splitL t ws).getD i 0 ≤ t := by
  have h1 := sumL_one (small_split h h0) i (by rw [split_len]; exact hi)
  rw [split_sum h.wm h0] at h1
  omega
theorem small_erase {ws : List Int} (h : Small ws) (i : Nat) : Small (ws.eraseIdx i) := fun w hw => h w (List.mem_of_mem_eraseIdx hw)
theorem erase_len {ws : List Int} {n : Nat} (i : Nat) (hn : ws.length = n) (hi : i < n) : (ws.eraseIdx i).length = n - 1 := by
  rw [List.length_eraseIdx_of_lt (by omega), hn]
theorem split_15 : splitL 1 [5] = [1] := by
  have hw : Wm [5] := by
    intro w hw
    have e : w = 5 := by simpa using hw
    omega
  rw [split_of (t := 1) (L := 0) (r := 1) (ws := [5]) hw (by omega) (by decide) (by omega) (by decide) (by decide)]
  decide
theorem split_32 : splitL 3 [2] = [2] := split_enough (by decide)
end Plain

/-- The wants, and one more: what append makes of a row and a number. -/
theorem plus_c {w W1 : World} {n : Nat} {r : Value} {l : List Int} (x : Int) (own : W1.ownsRow w.heap.size 3 1 r n (ivals l)) (hn : l.length = n) (h1 : n ≤ 100) (hb : Below w.heap.size w W1) :
    ∃ g c W2, (Builtin.append_ #[22, 22] 22 #[r, .slice (some ⟨W1.heap.size, 0, none⟩) 1 1]).run Try.prog (W1.alloc (.cells #[.int .i64 x] 3)) = .ok (.slice (some ⟨g, 0, none⟩) (n + 1) c) W2 ∧
      RowI W2 g (l ++ [x]) ∧ w.heap.size ≤ g ∧ n + 1 ≤ c ∧ Below w.heap.size w W2 := by
  have hge := hb.size
  have hrow : RowI (W1.alloc (.cells #[.int .i64 x] 3)) W1.heap.size [x] :=
    ⟨#[.int .i64 x], Deep.blk_alloc_new _ _, by simp, fun i hi => by
      have : i = 0 := by simpa using hi
      subst this; rfl⟩
  obtain ⟨v', W2, hrun, hown, hgrow⟩ := app_ints (own.alloc (.cells #[.int .i64 x] 3)) hrow.wants (m := 1) rfl (c := 1) (fun e => by cases e) (by omega) (by simp; omega)
  obtain ⟨g, c, rfl, hr, hg, hc⟩ := owns_row hown (by simp [hn]) (by omega)
  exact ⟨g, c, W2, hrun, hr, hg, hc, (hb.alloc hge _).grown hgrow (by simp; omega) (fun j hj => (own.lt j hj).1)⟩
/-- append whose run is known, at a step of a region that draws. -/
theorem step_appG {P : Program} {ops : Array Oper} {o : Oper} {a : Act} {w : World} {K : Act → World → Prop} {Q : Exit → Act → World → Prop} {E : Prop} (s x : Operand) (t : TypeId)
    (ho : o.op = .call { callee := .builtin .append, args := #[s, x], argTypes := #[t, t] }) (ty : TypeId) (hty : o.type = ty) (v1 v2 : Value) (hs : a.eval s = v1) (hx : a.eval x = v2) {v' : Value} {w' : World}
    (hr : (Builtin.append_ #[t, t] ty #[v1, v2]).run P w = .ok v' w') (hw : Region.wanted o (yielded ops a.tmps) = true) (h : K (a.put o.dst v') w') : if Region.wanted o (yielded ops a.tmps) = true then o.wp P a w K Q else E := by
  rw [if_pos hw]
  unfold Oper.wp execOp
  simp only [ho, resolve, invoke, builtin, Sem.run_bind, Sem.run_pure, Result.andThen_ok, List.map_toArray, List.map_cons, List.map_nil, hs, hx, hty, hr]
  exact h

theorem RowI.wants_take {w : World} {g : Nat} {l : List Int} (h : RowI w g l) (i : Nat) : Wants w (some ⟨g, 0, none⟩) (l.take i) := fun h0 => by
  refine ⟨g, 0, rfl, h.lt, fun j hj => ?_⟩
  rw [List.length_take] at hj
  rw [Nat.zero_add, h.cell (by omega)]
  simp [List.getD_eq_getElem?_getD, show j < i by omega]
theorem RowI.wants_drop {w : World} {g : Nat} {l : List Int} (h : RowI w g l) (i : Nat) : Wants w (some ⟨g, i, none⟩) (l.drop i) := fun h0 => by
  refine ⟨g, i, rfl, h.lt, fun j hj => ?_⟩
  rw [List.length_drop] at hj
  rw [h.cell (i := i + j) (by omega)]
  simp [List.getD_eq_getElem?_getD, List.getElem?_drop]
/-- What lies ahead of a place, and behind it, appended one to the other: the row without it. -/
theorem erase_c {W : World} {g n i c d : Nat} {l : List Int} (ad : Addr) (had : i + 1 < n → ad = ⟨g, i + 1, none⟩) (h : RowI W g l) (hn : l.length = n) (hi : i < n) (h1 : n ≤ 100) :
    ∃ p1 c1 U1 p2 c2 U2, (Builtin.append_ #[22, 22] 22 #[.slice none 0 0, .slice (some ⟨g, 0, none⟩) i c]).run Try.prog W = .ok (.slice p1 i c1) U1 ∧
      (Builtin.append_ #[22, 22] 22 #[.slice p1 i c1, .slice (some ad) (n - (i + 1)) d]).run Try.prog U1 = .ok (.slice p2 (n - 1) c2) U2 ∧
      Wants U2 p2 (l.eraseIdx i) ∧ (p2 = none → c2 = 0) ∧ Below W.heap.size W U2 ∧ Below W.heap.size W U1 := by
  obtain ⟨v1, U1, r1, o1, g1⟩ := app_ints (l := []) (n := 0) (c := c) (World.ownsRow_nil W W.heap.size 3 1) (h.wants_take i) (m := i) (by rw [List.length_take]; omega) (fun e => by cases e) (by omega) (Nat.le_refl _)
  rw [List.nil_append, Nat.zero_add] at o1
  obtain ⟨p1, c1, rfl, _, _⟩ := owns_wants o1 (by rw [List.length_take]; omega)
  have b1 : Below W.heap.size W U1 := (Below.refl _ _).grown g1 (Nat.le_refl _) (fun k hk => by simp [Value.ownBlock] at hk)
  have hd : Wants U1 (some ad) (l.drop (i + 1)) := fun h0 => by
    rw [had (by rw [List.length_drop] at h0; omega)]
    exact (h.below b1 h.lt).wants_drop (i + 1) h0
  obtain ⟨v2, U2, r2, o2, g2⟩ := app_ints (c := d) o1 hd (m := n - (i + 1)) (by rw [List.length_drop]; omega) (fun e => by cases e) (by omega) b1.size
  rw [← List.eraseIdx_eq_take_drop_succ, show i + (n - (i + 1)) = n - 1 by omega] at o2
  obtain ⟨p2, c2, rfl, w2, n2⟩ := owns_wants o2 (Plain.erase_len i hn hi)
  exact ⟨p1, c1, U1, p2, c2, U2, r1, r2, w2, n2, b1.grown g2 b1.size (fun k hk => (o1.lt k hk).1), b1⟩
end Go.Proofs.Ytiddpkhmdjjmdah
