/-
  Goroutines among others: part 36 of what the law's own text rests on.
-/
import Derived.Test.YtcobehkadhcjiaaCc13
import Derived.Test.YtcobehkadhcjiaaCc24
import Derived.Laws.AppendOwnNone
/-
  append of what one row holds onto another one.
-/
namespace Go.Proofs.Ytcobehkadhcjiaa
open Go.RowKit

theorem run_app_owned {P : Program} {w : World} {B B2 n m e size bytes : Nat} {t ty : TypeId} {i : TypeInfo} {z v x : Value} {xs ys : List Value} (ht : P.underlying t = some (.slice e)) (hi : P.info? e = some i) (hz : i.zero = some z)
    (hsize : i.size = size) (hby : i.bytes = bytes) (hzs : z.cells.size = size) (hsz : 0 < size) (hown : w.ownsRow B e size v n xs) (hsrc : w.ownsRow B2 e size x m ys) (h1 : ∀ u ∈ ys, u.oneCell' = true) (h63 : n + m ≤ maxLen) (hbytes : (n + m) * bytes ≤ 140737488355328) (hB : B ≤ w.heap.size) :
    ∃ v' w', (Builtin.append_ #[t, t] ty #[v, x]).run P w = .ok v' w' ∧ w'.ownsRow B e size v' (n + m) (xs ++ ys) ∧ w.grownBy w' v.ownBlock := by
  rcases hsrc.2 with ⟨rfl, h0⟩ | ⟨g, cap, cur, rfl, _, _, _, _, _, _⟩
  · subst h0
    have hy : ys = [] := List.length_eq_zero_iff.1 (by rw [hsrc.1]; simp)
    subst hy
    refine ⟨v, w, run_append_owned_none (P := P) (w := w) B t ty e i size ht hi v n _ hown, by simpa using hown, ⟨rfl, rfl, rfl, Nat.le_refl _, fun _ _ _ => rfl⟩⟩
  · obtain ⟨v', w', a1, a2, a3, _⟩ := run_append_own (P := P) w B t ty e i z size bytes ht hi hz hsize hby hzs hsz v n _ hown ⟨g, 0, none⟩ m cap ys hsrc.1 (hsrc.cells rfl) h1 h63 hbytes hB
    exact ⟨v', w', a1, a2, a3⟩

/-- append whose run is known, at an operation that is wanted. -/
theorem wpList_app {P : Program} {ops : Array Oper} {Q : Exit → Act → World → Prop} {a : Act} {w w' : World} {rest : List Oper} {o : Oper} {v1 v2 v' : Value} {ty : Nat} (s x : Operand) (t : TypeId)
    (hrun : (Builtin.append_ #[t, t] ty #[v1, v2]).run P w = .ok v' w') (ho : o.op = .call { callee := .builtin .append, args := #[s, x], argTypes := #[t, t] }) (hty : o.type = ty)
    (hs : a.eval s = v1) (hx : a.eval x = v2) (hw : Region.wanted o (yielded ops a.tmps) = true) (h : wpList P ops Q rest (a.put o.dst v') w') : wpList P ops Q (o :: rest) a w :=
  BigFrame.wpList_want hw fun K hK => by
    unfold Oper.wp execOp
    simp only [ho, resolve, invoke, builtin, Sem.run_bind, Sem.run_pure, Result.andThen_ok, List.map_toArray, List.map_cons, List.map_nil, hs, hx, hty, hrun]
    exact hK _ _ h
end Go.Proofs.Ytcobehkadhcjiaa

/-
  A contract of Picked.
-/
namespace Go.Proofs.Ytcobehkadhcjiaa
open Go.RowKit

namespace Plain
theorem tmod_bd (a n : Int) (hn : 0 < n) : -n < a.tmod n ∧ a.tmod n < n := by
  have h1 := Int.tmod_lt_of_pos a hn
  have h2 := Int.tmod_lt_of_pos (-a) hn
  rw [Int.neg_tmod] at h2
  omega
theorem pick_neg (a n : Int) (hn : 0 < n) (h : a.tmod n < 0) : a.tmod n + n = a % n := by
  have e := Int.tmod_add_mul_tdiv a n
  have hb := tmod_bd a n hn
  have e2 : a = (a.tmod n + n) + n * (a.tdiv n - 1) := by rw [Int.mul_sub, Int.mul_one]; omega
  have h3 : a % n = (a.tmod n + n) % n := by
    conv => lhs; rw [e2]
    exact Int.add_mul_emod_self_left _ _ _
  rw [h3, Int.emod_eq_of_lt (by omega) (by omega)]
theorem pick_pos (a n : Int) (hn : 0 < n) (h : ¬ a.tmod n < 0) : a.tmod n = a % n := by
  have e := Int.tmod_add_mul_tdiv a n
  have hb := tmod_bd a n hn
  have h3 : a % n = (a.tmod n) % n := by
    conv => lhs; rw [← e]
    exact Int.add_mul_emod_self_left _ _ _
  rw [h3, Int.emod_eq_of_lt (by omega) (by omega)]

end Plain

set_option maxHeartbeats 400000 in
theorem picked_any (a n : Int) (_h1 : -9223372036854775808 ≤ a) (_h2 : a ≤ 9223372036854775807) (hn : 0 < n) (hn2 : n ≤ 1152921504606846976) (w : World) :
    Calls Try.prog 14 #[.int .i64 a, .int .i64 n] w fun e w' => e = .returned (.int .i64 (a % n)) ∧ w' = w := by
  have hb := Plain.tmod_bd a n hn
  by_cases h : a.tmod n < 0
  · have H := hid (Plain.pick_neg a n hn h)
    go_enter Try.func14, Try.ntmps14
    go_wp2
    go_ret
    exact ⟨by rw [← H.out]; rfl, rfl⟩
  · have H := hid (Plain.pick_pos a n hn h)
    go_enter Try.func14, Try.ntmps14
    go_wp2
    go_ret
    exact ⟨by rw [← H.out]; rfl, rfl⟩

end Go.Proofs.Ytcobehkadhcjiaa

/-
  Numbers appended to numbers; contracts of WantsOf and shares.
-/
namespace Go.Proofs.Ytcobehkadhcjiaa.Bo
open Go.RowKit Go.Shelf

/-- Numbers, as values. -/
def ivals (l : List Int) : List Value := l.map (Value.int .i64)
theorem ivals_snoc (l : List Int) (x : Int) : ivals (l ++ [x]) = ivals l ++ [.int .i64 x] := by simp [ivals]
theorem ivals_app (l m : List Int) : ivals (l ++ m) = ivals l ++ ivals m := by simp [ivals]
theorem ivals_len (l : List Int) : (ivals l).length = l.length := by simp [ivals]
theorem ivals_one (l : List Int) : ∀ u ∈ ivals l, u.oneCell' = true := by
  intro u hu
  obtain ⟨x, _, rfl⟩ := List.mem_map.1 hu
  rfl
theorem ivals_get {l : List Int} {j : Nat} {u : Value} (h : (ivals l)[j]? = some u) : j < l.length ∧ u = .int .i64 (l.getD j 0) := by
  have hj : j < l.length := by
    rcases Nat.lt_or_ge j l.length with h1 | h1
    · exact h1
    · rw [List.getElem?_eq_none (by rw [ivals_len]; exact h1)] at h; cases h
  refine ⟨hj, ?_⟩
  simp only [ivals, List.getElem?_map, List.getElem?_eq_getElem hj, Option.map_some, Option.some.injEq] at h
  rw [← h, Plain.getD_lt _ _ _ hj]
theorem addr_add (b o j : Nat) : (⟨b, o, none⟩ : Addr).add j = ⟨b, o + j, none⟩ := by unfold Addr.add; split <;> simp_all

set_option maxRecDepth 100000 in
/-- append of what a slice of numbers holds onto a row of the call's own, whatever the slice. -/
theorem app_ints {w : World} {B n m c : Nat} {v : Value} {p : Option Addr} {l q : List Int} (hown : w.ownsRow B 3 1 v n (ivals l)) (hq : Wants w p q) (hm : q.length = m) (hnil : p = none → c = 0)
    (h63 : n + m ≤ 1000000) (hB : B ≤ w.heap.size) :
    ∃ v' w', (Builtin.append_ #[22, 22] 22 #[v, .slice p m c]).run Try.prog w = .ok v' w' ∧ w'.ownsRow B 3 1 v' (n + m) (ivals (l ++ q)) ∧ w.grownBy w' v.ownBlock := by
  obtain ⟨j0, ji, jz0, jz1, jz2⟩ := info_parts Try.infoInt
  subst hm
  cases p with
  | none =>
    have h0 : q = [] := by
      by_cases h : 0 < q.length
      · obtain ⟨_, _, e, _⟩ := hq h; cases e
      · exact List.length_eq_zero_iff.1 (by omega)
    subst h0
    have hc := hnil rfl
    subst hc
    refine ⟨v, w, ?_, by simpa using hown, ⟨rfl, rfl, rfl, Nat.le_refl _, fun _ _ _ => rfl⟩⟩
    exact run_append_owned_none (P := Try.prog) (w := w) B 22 22 3 j0 1 Try.underlying22 ji v n _ hown
  | some a =>
    obtain ⟨v', w', h1, h2, h3, _⟩ := run_append_own (P := Try.prog) w B 22 22 3 j0 (.int .i64 0) 1 8 Try.underlying22 ji jz0 jz1 jz2 rfl (by decide) v n _ hown a q.length c (ivals q)
      (by rw [ivals_len]; omega) (fun j u hu => by
        obtain ⟨hj, rfl⟩ := ivals_get hu
        obtain ⟨b, o, e, _, g⟩ := hq (by omega)
        injection e with e
        subst e
        rw [addr_add]
        exact g j hj) (ivals_one q) (by unfold maxLen; omega) (by omega) hB
    exact ⟨v', w', h1, by rw [ivals_app]; exact h2, h3⟩

/-- A row of the call's own, in one form. -/
theorem owns_wants {w : World} {B n : Nat} {v : Value} {l : List Int} (h : w.ownsRow B 3 1 v n (ivals l)) (hn : l.length = n) : ∃ p c, v = .slice p n c ∧ Wants w p l ∧ (p = none → c = 0) := by
  rcases h.2 with ⟨rfl, h0⟩ | ⟨g, c, cur, rfl, hg, hb, h1, h2, h3, h4⟩
  · subst h0
    exact ⟨none, 0, rfl, fun h => by omega, fun _ => rfl⟩
  · refine ⟨_, c, rfl, fun h0 => ?_, fun e => by cases e⟩
    have R := (RowI.of_owns (l := l) h hn rfl).1
    exact ⟨g, 0, rfl, R.lt, fun j hj => by rw [Nat.zero_add]; exact R.cell hj⟩
theorem owns_row {w : World} {B n : Nat} {v : Value} {l : List Int} (h : w.ownsRow B 3 1 v n (ivals l)) (hn : l.length = n) (h0 : 0 < n) : ∃ g c, v = .slice (some ⟨g, 0, none⟩) n c ∧ RowI w g l ∧ B ≤ g ∧ n ≤ c := by
  rcases h.2 with ⟨rfl, h1⟩ | ⟨g, c, cur, rfl, hg, hb, h1, h2, h3, h4⟩
  · omega
  · exact ⟨g, c, rfl, (RowI.of_owns (l := l) h hn rfl).1, hg, h1⟩
theorem RowI.wants {w : World} {g : Nat} {l : List Int} (h : RowI w g l) : Wants w (some ⟨g, 0, none⟩) l := fun _ => ⟨g, 0, rfl, h.lt, fun j hj => by rw [Nat.zero_add]; exact h.cell hj⟩
theorem RowI.drewN {w : World} {g : Nat} {l : List Int} (h : RowI w g l) (q : Nat) : RowI (w.drewN q) g l := h.of_block rfl

set_option maxHeartbeats 2000000 in
/-- shares, where nothing is refused: a row of its own. -/
theorem shares_c (p : Option Addr) (n c : Nat) (l : List Int) (t : Int) (hE : Plain.splitE t l = 0) (w : World) (hn : l.length = n) (hp : Wants w p l) (hnil : p = none → c = 0) :
    Calls Try.prog 17 #[.int .i64 t, .slice p n c] w fun e w' =>
      ∃ g, e = .returned (.tuple #[.slice (some ⟨g, 0, none⟩) n n, .bool true]) ∧ RowI w' g (Plain.splitL t l) ∧ w.heap.size ≤ g ∧ Below w.heap.size w w' := by
  have h16 := (Plain.splitE_zero hE).1
  obtain ⟨v', W1, hrun, hown, hgrow⟩ := app_ints (l := []) (n := 0) (World.ownsRow_nil w w.heap.size 3 1) hp hn hnil (by omega) (Nat.le_refl _)
  rw [List.nil_append, Nat.zero_add] at hown
  obtain ⟨p', c', rfl, hp', _⟩ := owns_wants hown hn
  have bel : Below w.heap.size w W1 := (Below.refl _ _).grown hgrow (Nat.le_refl _) (fun k hk => by simp [Value.ownBlock] at hk)
  have K := split_ok p' n c' l t hE W1 hn hp'
  have HB := hid bel
  have HR := hid hrun
  clear hp hp' hown hgrow bel hE hnil hrun hn
  have hn16 : n ≤ 16 ∨ 16 < n := by omega
  go_enter Try.func17, Try.ntmps17
  go_wp2_with (first | (at_builtin; refine wpList_app _ _ 22 HR.out (by rfl) (by rfl) (by rfl) (by rfl) (by rfl) ?_) | fail)
  refine K.mono ?_
  rintro e w' ⟨g, rfl, hr, hg, hb⟩
  have R1 := hid hr
  have R2 := hid hg
  have R3 := hid hb
  clear hr hg hb K
  go_wp2
  go_ret2
  exact ⟨g, rfl, R1.out, Nat.le_trans HB.out.size R2.out, HB.out.trans (R3.out.mono HB.out.size)⟩

namespace Plain
/-- What WantsOf makes of numbers. -/
def wantL (l : List Int) : List Int := (l.take 10).map (fun x => x % 40)
theorem wantL_len (l : List Int) : (wantL l).length ≤ 10 := by simp [wantL]; omega
theorem wantL_bd (l : List Int) : ∀ w, w ∈ wantL l → 0 ≤ w ∧ w ≤ 40 := by
  intro x hx
  obtain ⟨y, _, rfl⟩ := List.mem_map.1 hx
  omega
theorem wantL_ok (l : List Int) : Wm (wantL l) := fun w hw => by have := wantL_bd l w hw; omega
theorem wantL_step (l : List Int) (k : Nat) (h : k < l.length) (h2 : k < 10) : wantL (l.take (k + 1)) = wantL (l.take k) ++ [l.getD k 0 % 40] := by
  unfold wantL
  rw [List.take_take, List.take_take, show min 10 (k + 1) = k + 1 by omega, show min 10 k = k by omega, List.take_succ_eq_append_getElem h, List.map_append]
  simp [h]
theorem wantL_take (l : List Int) (k : Nat) (h : l.length ≤ k ∨ 10 ≤ k) : wantL (l.take k) = wantL l := by
  unfold wantL
  rcases h with h | h
  · rw [List.take_of_length_le h]
  · rw [List.take_take, show min 10 k = 10 by omega]
end Plain

set_option maxHeartbeats 2000000 in
set_option maxRecDepth 100000 in
/-- WantsOf at whatever numbers: a row of its own. -/
theorem wantsOf_c (p : Option Addr) (n cap : Nat) (l : List Int) (hr : ∀ n ∈ l, (Lit.int .i64 n).wf = true) (hl : n ≤ 9223372036854775807) (w : World) (hn : l.length = n) (h : Wants w p l) :
    Calls Try.prog 16 #[.slice p n cap] w fun e w' => ∃ r, e = .returned r ∧ w'.ownsRow w.heap.size 3 1 r (Plain.wantL l).length (ivals (Plain.wantL l)) ∧ Below w.heap.size w w' := by
  obtain ⟨i0, hi, hz0, hz1, hz2⟩ := info_parts Try.infoInt
  have H := hid h
  have HR := hid hr
  have HN := hid hn
  clear h hr hn
  go_enter Try.func16, Try.ntmps16
  go_wp2
  go_loopw [3, 4] (fun v i wr => ∃ k : Nat, k ≤ n ∧ k ≤ 10 ∧ i = .int .i64 k ∧ wr.ownsRow w.heap.size 3 1 v k (ivals (Plain.wantL (l.take k))) ∧ Below w.heap.size w wr)
    (fun _ i _ => 10 - (intOf i).toNat)
  case atStart => exact ⟨0, Nat.zero_le _, by omega, rfl, World.ownsRow_nil _ _ _ _, Below.refl _ _⟩
  case round =>
    obtain ⟨k, hk, hk2, rfl, hown, hbel⟩ := hrel
    have hge := hbel.size
    by_cases hlt : k < n ∧ k < 10
    · obtain ⟨hlt1, hlt2⟩ := hlt
      have hll : k < l.length := by rw [HN.out]; exact hlt1
      obtain ⟨b, off, rfl, hb, hc⟩ := H.out (by omega)
      have g := (hbel.cell (p := ⟨b, off + k, none⟩) hb).trans (hc k hll)
      clear hc
      have hx := HR.out (l.getD k 0) (Plain.mem_getD hll)
      have hst := hid (Plain.wantL_step l k hll hlt2)
      have hx2 := bounds_i64 hx
      clear hx
      generalize hxx : l.getD k 0 = x at g hx2 hst
      clear hxx
      obtain ⟨hx3, hx4⟩ := hx2
      have hlt' : (k : Int) < (n : Int) := by omega
      have hm0 : 0 ≤ x % 40 := by omega
      have hm1 : x % 40 < 40 := by omega
      go_wp2_with fail
      refine (picked_any x 40 hx3 hx4 (by omega) (by omega) _).mono ?_
      rintro e wx ⟨rfl, hx⟩
      have hy := hx.symm
      clear hx
      subst hy
      generalize x % 40 = y at hm0 hm1 hst
      go_wp2_with (first
        | (at_builtin; refine wpList_append_own _ rfl _ _ 22 rfl w.heap.size 3 i0 (.int .i64 0) 1 8 Try.underlying22 hi hz0 hz1 hz2 rfl (by decide) _ _ _ rfl (hown.alloc _) ⟨wr.heap.size, 0, none⟩ 1 1 [.int .i64 y] rfl rfl ?c1 ?c2 ?c3 ?c4 ?c5 ?_)
        | go_in)
      case c1 =>
        intro j u hj
        match j, hj with
        | 0, hj => simp at hj; subst hj; simp [Addr.add]
      case c2 => first | rfl | (intro u hu; simp at hu; subst hu; rfl)
      case c3 => unfold maxLen; omega
      case c4 => omega
      case c5 => simp; omega
      intro v' w1 hown' hgrow _
      have R := hid (show w1.ownsRow w.heap.size 3 1 v' (k + 1) (ivals (Plain.wantL (l.take (k + 1)))) ∧ Below w.heap.size w w1 from ⟨by rw [hst.out, ivals_snoc]; exact hown', (hbel.alloc hge _).grown hgrow (by simp; omega) (fun j hj => (hown.lt j hj).1)⟩)
      clear hown' hgrow hown hbel
      go_wp2
      go_roundw
      case rel => first | exact ⟨k + 1, by omega, by omega, by go_num, R.out.1, R.out.2⟩ | ((repeat apply Exists.intro); exact ⟨⟨k + 1, by omega, by omega, by go_num, R.out.1, R.out.2⟩, rfl⟩)
      case measure => simp [intOf]; omega
    · have HO := hid hown
      have HB := hid hbel
      have hfin := hid (Plain.wantL_take l k (by rw [HN.out]; omega))
      have hlen := hid (show (Plain.wantL l).length = k by
        rw [← hfin.out]; simp [Plain.wantL]; rw [HN.out]; omega)
      clear hown hbel
      by_cases hlt1 : k < n
      · have h20 : k = 10 := by omega
        subst h20
        clear hlt
        go_wp2
        go_ret
        exact ⟨_, rfl, by rw [hlen.out, ← hfin.out]; exact HO.out, HB.out⟩
      · clear hlt
        have hlt1' : ¬ (k : Int) < (n : Int) := by omega
        go_wp2
        go_ret
        exact ⟨_, rfl, by rw [hlen.out, ← hfin.out]; exact HO.out, HB.out⟩
end Go.Proofs.Ytcobehkadhcjiaa.Bo

/-
  A contract of sameInts (keep): are the numbers of two slices the same?
-/
namespace Go.Proofs.Ytcobehkadhcjiaa.Bo
open Go.RowKit
namespace keep

theorem seg_form {w : World} {u : Value} {bl : List Int} (h : Seg w u bl) : ∃ p c, u = .slice p bl.length c := by
  rcases h with ⟨rfl, p, c, rfl⟩ | ⟨b, o, c, rfl, _⟩
  · exact ⟨p, c, rfl⟩
  · exact ⟨_, c, rfl⟩

theorem take_next {a b : List Int} {k : Nat} (ha : k < a.length) (hb : k < b.length) (h : a.take k = b.take k) (e : a.getD k 0 = b.getD k 0) : a.take (k + 1) = b.take (k + 1) := by
  rw [List.take_succ_eq_append_getElem ha, List.take_succ_eq_append_getElem hb, h]
  simp only [List.getD_eq_getElem?_getD, List.getElem?_eq_getElem ha, List.getElem?_eq_getElem hb, Option.getD_some] at e
  rw [e]

set_option maxHeartbeats 400000 in
theorem same_len (p1 p2 : Option Addr) (n m c1 c2 : Nat) (h : ¬ n = m) (w : World) :
    Calls Try.prog 18 #[.slice p1 n c1, .slice p2 m c2] w fun e w' => e = .returned (.bool false) ∧ ∃ q, w' = w.drewN q := by
  have h' : ¬ (n : Int) = (m : Int) := by omega
  go_enter Try.func18, Try.ntmps18
  go_wp2
  go_ret
  exact ⟨rfl, 0, rfl⟩

set_option maxHeartbeats 400000 in
theorem same_nil (p1 p2 : Option Addr) (c1 c2 : Nat) (w : World) :
    Calls Try.prog 18 #[.slice p1 0 c1, .slice p2 0 c2] w fun e w' => e = .returned (.bool true) ∧ ∃ q, w' = w.drewN q := by
  go_enter Try.func18, Try.ntmps18
  go_wp2
  refine wp_loop_rounds 1 ?_
  rw [rounds_succ]
  go_wp2
  go_ret
  exact ⟨rfl, 0, rfl⟩

set_option maxHeartbeats 800000 in
theorem same_two (b1 o1 c1 b2 o2 c2 n : Nat) (a b : List Int) (ha : a.length = n) (hb : b.length = n) (hl : n ≤ 1000000) (w : World)
    (h1 : ∀ j, j < n → w.cell? ⟨b1, o1 + j, none⟩ = some (.int .i64 (a.getD j 0)))
    (h2 : ∀ j, j < n → w.cell? ⟨b2, o2 + j, none⟩ = some (.int .i64 (b.getD j 0))) :
    Calls Try.prog 18 #[.slice (some ⟨b1, o1, none⟩) n c1, .slice (some ⟨b2, o2, none⟩) n c2] w fun e w' => e = .returned (.bool (decide (a = b))) ∧ ∃ q, w' = w.drewN q := by
  have H1 := hid h1
  have H2 := hid h2
  have HA := hid ha
  have HB := hid hb
  clear h1 h2 ha hb
  go_enter Try.func18, Try.ntmps18
  go_wp2
  go_loopw [5] (fun i wr => ∃ k q : Nat, k ≤ n ∧ i = .int .i64 k ∧ a.take k = b.take k ∧ wr = w.drewN q) (fun i _ => n - (intOf i).toNat)
  case atStart => exact ⟨0, 0, Nat.zero_le _, rfl, rfl, rfl⟩
  case round =>
    obtain ⟨k, q, hk, rfl, ht, hw⟩ := hrel
    have HT := hid ht
    have HW := hid hw
    clear ht hw
    by_cases hlt : k < n
    · have g1 : wr.cell? ⟨b1, o1 + k, none⟩ = some (.int .i64 (a.getD k 0)) := by rw [HW.out]; simpa using H1.out k hlt
      have g2 : wr.cell? ⟨b2, o2 + k, none⟩ = some (.int .i64 (b.getD k 0)) := by rw [HW.out]; simpa using H2.out k hlt
      have hlt' : (k : Int) < (n : Int) := by omega
      obtain ⟨x, hx⟩ : ∃ x, x = a.getD k 0 := ⟨_, rfl⟩
      obtain ⟨y, hy⟩ : ∃ y, y = b.getD k 0 := ⟨_, rfl⟩
      rw [← hx] at g1
      rw [← hy] at g2
      have HX := hid hx
      have HY := hid hy
      clear hx hy
      by_cases c : x = y
      · subst c
        have R := hid (take_next (by rw [HA.out]; exact hlt) (by rw [HB.out]; exact hlt) HT.out (by rw [← HX.out, ← HY.out]))
        go_wp2
        go_quiet (fail)
        go_wp2
        go_roundw
        case rel => exact ⟨k + 1, _, by omega, by go_num, R.out, by rw [HW.out, drewN_add]⟩
        case measure => simp [intOf]; omega
      · go_wp2
        go_quiet (fail)
        go_wp2
        go_ret
        exact ⟨ret_bool (by symm; rw [decide_eq_false_iff_not]; intro e; apply c; rw [HX.out, HY.out, e]), _, by rw [HW.out, drewN_add]⟩
    · have ek : k = n := by omega
      subst ek
      have R := HT.out
      rw [List.take_of_length_le (by rw [HA.out]; exact Nat.le_refl _), List.take_of_length_le (by rw [HB.out]; exact Nat.le_refl _)] at R
      have RR := hid R
      clear R
      go_wp2
      go_ret
      exact ⟨ret_bool (by symm; rw [decide_eq_true_iff]; exact RR.out), _, HW.out⟩

theorem same_any (v1 v2 : Value) (a b : List Int) (hl : a.length ≤ 1000000) (w : World) (h1 : Seg w v1 a) (h2 : Seg w v2 b) :
    Calls Try.prog 18 #[v1, v2] w fun e w' => e = .returned (.bool (decide (a = b))) ∧ ∃ q, w' = w.drewN q := by
  by_cases hn : a.length = b.length
  · rcases h1 with ⟨rfl, p1, c1, rfl⟩ | ⟨b1, o1, c1, rfl, g1⟩
    · have eb : b = [] := List.length_eq_zero_iff.1 hn.symm
      subst eb
      rcases h2 with ⟨_, p2, c2, rfl⟩ | ⟨b2, o2, c2, rfl, _⟩
      · exact same_nil p1 p2 c1 c2 w
      · exact same_nil p1 _ c1 c2 w
    · rcases h2 with ⟨rfl, p2, c2, rfl⟩ | ⟨b2, o2, c2, rfl, g2⟩
      · have ea : a = [] := List.length_eq_zero_iff.1 hn
        subst ea
        exact same_nil _ p2 c1 c2 w
      · rw [← hn] at g2 ⊢
        exact same_two b1 o1 c1 b2 o2 c2 a.length a b rfl hn.symm hl w g1 g2
  · have e : decide (a = b) = false := by rw [decide_eq_false_iff_not]; intro e; exact hn (by rw [e])
    rw [e]
    obtain ⟨p1, c1, rfl⟩ := seg_form h1
    obtain ⟨p2, c2, rfl⟩ := seg_form h2
    exact same_len p1 p2 _ _ c1 c2 hn w
end keep
end Go.Proofs.Ytcobehkadhcjiaa.Bo
