/-
  Rows of open holds: what is looked for, taken out, and dropped (written by genlx.py).
-/
import Derived.Test.YtiolkeghgodggahLm
import Derived.Test.YtiolkeghgodggahCk
import Derived.Deep.RegionLaw
import Derived.RegionTactic
namespace Go.Proofs.Ytiolkeghgodggah.Hd
open Go.RowKit Go.Shelf Go.Sort

theorem _root_.Go.Proofs.Ytiolkeghgodggah.Enc.vals_take {α : Type} (E : Enc α) (l : List α) (i : Nat) (hi : i ≤ l.length) : E.vals (l.take i) = (E.vals l).take (i * E.n) := by
  have e : E.vals l = E.vals (l.take i) ++ E.vals (l.drop i) := by rw [← E.vals_app, List.take_append_drop]
  have h1 : (E.vals (l.take i)).length = i * E.n := by rw [E.vals_len, List.length_take, Nat.min_eq_left hi]
  rw [e, ← h1, List.take_left]
theorem own_take {w : World} {B e s g n c i : Nat} {xs : List Value} (h : w.ownsRow B e s (.slice (some ⟨g, 0, none⟩) n c) n xs) (hi : i ≤ n) : w.ownsRow B e s (.slice (some ⟨g, 0, none⟩) i c) i (xs.take (i * s)) := by
  rcases h.2 with ⟨e, _⟩ | ⟨g', c', cur, e, hg, hb, h1, h2, h3, h4⟩
  · cases e
  · simp only [Value.slice.injEq, Option.some.injEq, Addr.mk.injEq, and_true, true_and] at e
    obtain ⟨rfl, rfl⟩ := e
    have him : i * s ≤ n * s := Nat.mul_le_mul_right _ hi
    refine ⟨by rw [List.length_take, h.1]; omega, .inr ⟨g, c, cur, rfl, hg, hb, by omega, h2, h3, ?_⟩⟩
    rw [← h4, List.take_take, Nat.min_eq_left him]
/-- What lies behind the row's own places may be laid over. -/
theorem own_clear {w : World} {B e s g n c o : Nat} {xs zs : List Value} {cur : Array Value} (h : w.ownsRow B e s (.slice (some ⟨g, 0, none⟩) n c) n xs) (hb : w.heap[g]? = some (.cells cur e (0, 0))) (ho : n * s ≤ o) (hz : o + zs.length ≤ c * s) :
    (w.setRow g (cur.toList.take o ++ zs ++ cur.toList.drop (o + zs.length)).toArray).ownsRow B e s (.slice (some ⟨g, 0, none⟩) n c) n xs := by
  rcases h.2 with ⟨e, _⟩ | ⟨g', c', cur', e, hg, hb', h1, h2, h3, h4⟩
  · cases e
  · simp only [Value.slice.injEq, Option.some.injEq, Addr.mk.injEq, and_true, true_and] at e
    obtain ⟨rfl, rfl⟩ := e
    rw [hb] at hb'
    simp only [Option.some.injEq, Obj.cells.injEq, and_true] at hb'
    obtain ⟨rfl⟩ := hb'
    have hcl : cur.toList.length = c * s := by rw [Array.length_toList]; exact h3
    refine ⟨h.1, .inr ⟨g, c, _, rfl, hg, setRow_heap w g _ _ _ _ hb, h1, h2, ?_, ?_⟩⟩
    · simp only [List.size_toArray, List.length_append, List.length_take, List.length_drop, hcl]
      omega
    · rw [← h4]
      show (cur.toList.take o ++ zs ++ cur.toList.drop (o + zs.length)).take (n * s) = _
      have hlo : (cur.toList.take o).length = o := by rw [List.length_take]; omega
      rw [List.append_assoc, List.take_append_of_le_length (by omega), List.take_take, Nat.min_eq_left ho]
theorem own_cur {w : World} {B e s g n c : Nat} {xs : List Value} (h : w.ownsRow B e s (.slice (some ⟨g, 0, none⟩) n c) n xs) : ∃ cur, w.heap[g]? = some (.cells cur e (0, 0)) ∧ cur.size = c * s ∧ n ≤ c ∧ c ≤ maxLen ∧ B ≤ g := by
  rcases h.2 with ⟨e, _⟩ | ⟨g', c', cur, e, hg, hb, h1, h2, h3, h4⟩
  · cases e
  · simp only [Value.slice.injEq, Option.some.injEq, Addr.mk.injEq, and_true, true_and] at e
    obtain ⟨rfl, rfl⟩ := e
    exact ⟨cur, hb, h3, h1, h2, hg⟩
theorem grownBy_setRow (w : World) (g : Nat) (cs : Array Value) : w.grownBy (w.setRow g cs) (some g) :=
  ⟨rfl, rfl, rfl, by simp, fun k _ hk => setRow_other w g k _ (fun e => hk (by simp [e]))⟩
theorem grownBy_trans {w w' w'' : World} {r : Option Nat} (h : w.grownBy w' r) (g : w'.grownBy w'' r) : w.grownBy w'' r :=
  ⟨g.os.trans h.os, g.tape.trans h.tape, g.output.trans h.output, Nat.le_trans h.size g.size, fun k hk hr => (g.block k (Nat.lt_of_lt_of_le hk h.size) hr).trans (h.block k hk hr)⟩
theorem grownBy_below {w w' : World} {r : Option Nat} (h : Below w.heap.size w w') : w.grownBy w' r := ⟨h.os, h.tape, h.output, h.size, fun k hk _ => h.block k hk⟩

namespace Plain
/-- What a search comes to. -/
def Found (p : Pt → Bool) (l : List Pt) (r : Int) : Prop := (r = -1 ∧ ∀ j, j < l.length → p (l.getD j default) = false) ∨ ∃ k : Nat, k < l.length ∧ r = k ∧ p (l.getD k default) = true ∧ ∀ j, j < k → p (l.getD j default) = false
theorem found_any (p : Pt → Bool) (l : List Pt) : ∃ r, Found p l r := by
  by_cases h : l.findIdx p < l.length
  · refine ⟨l.findIdx p, .inr ⟨_, h, rfl, ?_, fun j hj => ?_⟩⟩
    · rw [List.getD_eq_getElem?_getD, List.getElem?_eq_getElem h]; exact List.findIdx_getElem
    · rw [List.getD_eq_getElem?_getD, List.getElem?_eq_getElem (by omega)]
      have := List.not_of_lt_findIdx hj
      simpa using this
  · refine ⟨-1, .inl ⟨rfl, fun j hj => ?_⟩⟩
    have e : l.findIdx p = l.length := by have := List.findIdx_le_length (p := p) (xs := l); omega
    rw [List.findIdx_eq_length] at e
    rw [List.getD_eq_getElem?_getD, List.getElem?_eq_getElem hj]
    exact e _ (List.getElem_mem hj)
end Plain
namespace Plain
def isOver (p : Pt) : Bool := p.ticks == 0
def isNamed (i : Int) (p : Pt) : Bool := p.id == i
end Plain

theorem over1_c (x : Plain.Pt) (w : World) : Calls Try.prog 47 #[aggP x] w fun e w' => e = .returned (.bool (Plain.isOver x)) ∧ w' = w.alloc (boxP x) := by
  obtain ⟨a, b, c⟩ := x
  unfold Plain.isOver
  dsimp only
  go_enter Try.func47, Try.ntmps47
  go_wp2
  go_ret
  exact ⟨rfl, rfl⟩
set_option maxHeartbeats 2000000 in
theorem overIndex_c (p : Option Addr) (n c : Nat) (l : List Plain.Pt) (w : World) (hn : l.length = n) (hbig : n ≤ 1000) (r : Int) (hr : Plain.Found (Plain.isOver) l r)
    (hp : 0 < n → ∃ b off, p = some ⟨b, off, none⟩ ∧ b < w.heap.size ∧ ∀ j, j < n → CellP w b (off + j * 3) (l.getD j default)) :
    Calls Try.prog 43 #[.slice p n c, .func (.func 47) #[] #[]] w fun e w' => e = .returned (.int .i64 r) ∧ Below w.heap.size w w' := by
  have HP := hid hp
  have HN := hid hn
  have HR := hid hr
  clear hp hn hr
  go_enter Try.func43, Try.ntmps43
  go_wp2
  go_loopg [5, 8] n (fun gg _ s8 wr => ∃ kk : Nat, kk ≤ n ∧ n - kk ≤ gg ∧ s8 = .int .i64 kk ∧ Aside (Below w.heap.size w wr) ∧ Aside (∀ j, j < kk → (Plain.isOver) (l.getD j default) = false))
  case atStart => exact ⟨0, Nat.zero_le _, by omega, rfl, Below.refl _ w, fun j hj => absurd hj (Nat.not_lt_zero _)⟩
  case round =>
    obtain ⟨kk, hkk, hg, rfl, BW, A⟩ := hrel
    by_cases hlt : kk < n
    · have hltz : (kk : Int) < (n : Int) := by omega
      obtain ⟨b, off, rfl, hb, hc⟩ := HP.out (by omega)
      obtain ⟨c0, c1, c2⟩ := (hc kk hlt).below BW.out hb
      clear hc
      have hcall := over1_c (l.getD kk default) wr
      generalize hy : l.getD kk default = y at c0 c1 c2 hcall
      have HY : Aside (l.getD kk default = y) := hy
      clear hy
      cases hq : (Plain.isOver) y with
      | true =>
        rw [hq] at hcall
        have RV := hid (show r = kk by
          rcases HR.out with ⟨_, hall⟩ | ⟨k, hk, e, ht, hall⟩
          · have := hall kk (by rw [HN.out]; exact hlt)
            rw [HY.out, hq] at this; cases this
          · rcases Nat.lt_trichotomy k kk with h | h | h
            · have := A.out k h
              rw [ht] at this; cases this
            · rw [e, h]
            · have := hall kk h
              rw [HY.out, hq] at this; cases this)
        go_wp2_with fail
        refine hcall.mono ?_
        rintro e w' ⟨rfl, hw⟩
        have B2 := hid (show Below w.heap.size w w' by rw [hw]; exact BW.out.alloc BW.out.size _)
        clear hcall hw
        go_wp2
        go_ret
        exact ⟨ret_int RV.out.symm, B2.out⟩
      | false =>
        rw [hq] at hcall
        go_wp2_with fail
        refine hcall.mono ?_
        rintro e w' ⟨rfl, hw⟩
        have B2 := hid (show Below w.heap.size w w' by rw [hw]; exact BW.out.alloc BW.out.size _)
        clear hcall hw
        go_wp2
        go_roundg (n - (kk + 1))
        case measure => omega
        case rel =>
          refine ⟨kk + 1, by omega, by omega, by go_num, B2.out, (show Aside _ from fun j hj => ?_)⟩
          by_cases e : j = kk
          · subst e
            rw [HY.out]; exact hq
          · exact A.out j (by omega)
    · have hltz : ¬ (kk : Int) < (n : Int) := by omega
      have RV := hid (show r = -1 by
        rcases HR.out with ⟨e, _⟩ | ⟨k, hk, e, ht, hall⟩
        · exact e
        · have := A.out k (by have := HN.out; omega)
          rw [ht] at this; cases this)
      go_wp2
      go_ret
      exact ⟨ret_int RV.out.symm, BW.out⟩

theorem named1_c (i : Int) (a0 : Nat) (x : Plain.Pt) (w : World) (hi : w.cell? ⟨a0, 0, none⟩ = some (.int .i64 i)) : Calls Try.prog 44 #[aggP x, .pointer (some ⟨a0, 0, none⟩)] w fun e w' => e = .returned (.bool (Plain.isNamed i x)) ∧ w' = w.alloc (boxP x) := by
  obtain ⟨a, b, c⟩ := x
  unfold Plain.isNamed
  dsimp only
  have hlt := World.block_lt_of_cell? (w := w) (h := hi)
  have hi2 : (w.alloc (boxP ⟨a, b, c⟩)).cell? ⟨a0, 0, none⟩ = some (.int .i64 i) := by rw [World.cell?_alloc_lt _ _ _ hlt]; exact hi
  go_enter Try.func44, Try.ntmps44
  go_wp2
  go_ret
  exact ⟨rfl, rfl⟩
set_option maxHeartbeats 2000000 in
theorem namedIndex_c (i : Int) (a0 : Nat) (p : Option Addr) (n c : Nat) (l : List Plain.Pt) (w : World) (hn : l.length = n) (hbig : n ≤ 1000) (ha0 : a0 < w.heap.size) (hi : w.cell? ⟨a0, 0, none⟩ = some (.int .i64 i)) (r : Int) (hr : Plain.Found (Plain.isNamed i) l r)
    (hp : 0 < n → ∃ b off, p = some ⟨b, off, none⟩ ∧ b < w.heap.size ∧ ∀ j, j < n → CellP w b (off + j * 3) (l.getD j default)) :
    Calls Try.prog 43 #[.slice p n c, .func (.func 44) #[] #[.pointer (some ⟨a0, 0, none⟩)]] w fun e w' => e = .returned (.int .i64 r) ∧ Below w.heap.size w w' := by
  have HP := hid hp
  have HN := hid hn
  have HR := hid hr
  have HC0 := hid hi
  clear hi
  clear hp hn hr
  go_enter Try.func43, Try.ntmps43
  go_wp2
  go_loopg [5, 8] n (fun gg _ s8 wr => ∃ kk : Nat, kk ≤ n ∧ n - kk ≤ gg ∧ s8 = .int .i64 kk ∧ Aside (Below w.heap.size w wr) ∧ Aside (∀ j, j < kk → (Plain.isNamed i) (l.getD j default) = false))
  case atStart => exact ⟨0, Nat.zero_le _, by omega, rfl, Below.refl _ w, fun j hj => absurd hj (Nat.not_lt_zero _)⟩
  case round =>
    obtain ⟨kk, hkk, hg, rfl, BW, A⟩ := hrel
    by_cases hlt : kk < n
    · have hltz : (kk : Int) < (n : Int) := by omega
      obtain ⟨b, off, rfl, hb, hc⟩ := HP.out (by omega)
      obtain ⟨c0, c1, c2⟩ := (hc kk hlt).below BW.out hb
      clear hc
      have hcall := named1_c i a0 (l.getD kk default) wr ((BW.out.cell (p := ⟨a0, 0, none⟩) ha0).trans HC0.out)
      generalize hy : l.getD kk default = y at c0 c1 c2 hcall
      have HY : Aside (l.getD kk default = y) := hy
      clear hy
      cases hq : (Plain.isNamed i) y with
      | true =>
        rw [hq] at hcall
        have RV := hid (show r = kk by
          rcases HR.out with ⟨_, hall⟩ | ⟨k, hk, e, ht, hall⟩
          · have := hall kk (by rw [HN.out]; exact hlt)
            rw [HY.out, hq] at this; cases this
          · rcases Nat.lt_trichotomy k kk with h | h | h
            · have := A.out k h
              rw [ht] at this; cases this
            · rw [e, h]
            · have := hall kk h
              rw [HY.out, hq] at this; cases this)
        go_wp2_with fail
        refine hcall.mono ?_
        rintro e w' ⟨rfl, hw⟩
        have B2 := hid (show Below w.heap.size w w' by rw [hw]; exact BW.out.alloc BW.out.size _)
        clear hcall hw
        go_wp2
        go_ret
        exact ⟨ret_int RV.out.symm, B2.out⟩
      | false =>
        rw [hq] at hcall
        go_wp2_with fail
        refine hcall.mono ?_
        rintro e w' ⟨rfl, hw⟩
        have B2 := hid (show Below w.heap.size w w' by rw [hw]; exact BW.out.alloc BW.out.size _)
        clear hcall hw
        go_wp2
        go_roundg (n - (kk + 1))
        case measure => omega
        case rel =>
          refine ⟨kk + 1, by omega, by omega, by go_num, B2.out, (show Aside _ from fun j hj => ?_)⟩
          by_cases e : j = kk
          · subst e
            rw [HY.out]; exact hq
          · exact A.out j (by omega)
    · have hltz : ¬ (kk : Int) < (n : Int) := by omega
      have RV := hid (show r = -1 by
        rcases HR.out with ⟨e, _⟩ | ⟨k, hk, e, ht, hall⟩
        · exact e
        · have := A.out k (by have := HN.out; omega)
          rw [ht] at this; cases this)
      go_wp2
      go_ret
      exact ⟨ret_int RV.out.symm, BW.out⟩

theorem zeroPart (w : World) : (zeroValue 73).run Try.prog w = .ok (.agg #[.int .i64 0, .int .i64 0, .int .i64 0]) w := by
  obtain ⟨i0, hi, hz0, _, _⟩ := info_parts Try.infoPart
  simp [zeroValue, typeInfo, hi, hz0]
theorem list_erase (l : List Plain.Pt) (k : Nat) : l.eraseIdx k = l.take k ++ l.drop (k + 1) := List.eraseIdx_eq_take_drop_succ l k
/-- append whose run is known, at a step of a region that draws. -/
theorem step_appL {P : Program} {ops : Array Oper} {o : Oper} {a : Act} {w : World} {K : Act → World → Prop} {Q : Exit → Act → World → Prop} {E : Prop} (s x : Operand) (t : TypeId)
    (ho : o.op = .call { callee := .builtin .append, args := #[s, x], argTypes := #[t, t] }) (ty : TypeId) (hty : o.type = ty) (v1 v2 : Value) (hs : a.eval s = v1) (hx : a.eval x = v2) {v' : Value} {w' : World}
    (hr : (Builtin.append_ #[t, t] ty #[v1, v2]).run P w = .ok v' w') (hw : Region.wanted o (yielded ops a.tmps) = true) (h : K (a.put o.dst v') w') : if Region.wanted o (yielded ops a.tmps) = true then o.wp P a w K Q else E := by
  rw [if_pos hw]
  unfold Oper.wp execOp
  simp only [ho, resolve, invoke, builtin, Sem.run_bind, Sem.run_pure, Result.andThen_ok, List.map_toArray, List.map_cons, List.map_nil, hs, hx, hty, hr]
  exact h
/-- What append makes of a row out of which one is taken. -/
theorem erase_run {w : World} {B g n c k : Nat} {l : List Plain.Pt} (hn : l.length = n + 1) (hk : k ≤ n) (h : OwnP w B (.slice (some ⟨g, 0, none⟩) (n + 1) c) l) (A : Addr) (cx : Nat) (hA : k < n → A = ⟨g, (k + 1) * 3, none⟩) :
    ∃ U, (Builtin.append_ #[48, 48] 48 #[.slice (some ⟨g, 0, none⟩) k c, .slice (some A) (n - k) cx]).run Try.prog w = .ok (.slice (some ⟨g, 0, none⟩) n c) U ∧
      U.ownsRow B 73 3 (.slice (some ⟨g, 0, none⟩) n c) n (encP.vals (l.eraseIdx k)) ∧ w.grownBy U (some g) := by
  obtain ⟨j0, ji, jz0, jz1, jz2⟩ := info_parts Try.infoPart
  have h' : w.ownsRow B 73 3 (.slice (some ⟨g, 0, none⟩) (n + 1) c) (n + 1) (encP.vals l) := by rw [← hn]; rw [← hn] at h; exact h
  obtain ⟨cur, hb, hcs, hnc, hcm, hge⟩ := own_cur h'
  have h1 := own_take h' (i := k) (by omega)
  have hdl : (l.drop (k + 1)).length = n - k := by rw [List.length_drop, hn]; omega
  obtain ⟨U, e1, e2, e3⟩ := run_append_fits (P := Try.prog) w B 48 48 73 j0 3 Try.underlying48 ji jz1 g k c _ h1 A (n - k) cx (encP.vals (l.drop (k + 1)))
    (by rw [encP.vals_len, hdl]; rfl) (fun j u hu => by
      have hj : j < (n - k) * 3 := by
        rcases Nat.lt_or_ge j ((n - k) * 3) with x | x
        · exact x
        · rw [List.getElem?_eq_none (by rw [encP.vals_len, hdl]; exact x)] at hu; cases hu
      rw [hA (by omega), add_at']
      have e : encP.vals l = encP.vals (l.take (k + 1)) ++ encP.vals (l.drop (k + 1)) := by rw [← encP.vals_app, List.take_append_drop]
      have e' : (encP.vals (l.take (k + 1))).length = (k + 1) * 3 := by rw [encP.vals_len, List.length_take, hn, Nat.min_eq_left (by omega)]; rfl
      have hu' : (encP.vals l)[(k + 1) * 3 + j]? = some u := by rw [e, List.getElem?_append_right (by omega), e', show (k + 1) * 3 + j - (k + 1) * 3 = j by omega]; exact hu
      have := h'.cells rfl ((k + 1) * 3 + j) u hu'
      rw [add_at', Nat.zero_add] at this
      exact this) (encP.vals_cell _) (by omega)
  rw [show k + (n - k) = n by omega] at e1 e2
  refine ⟨U, e1, ?_, e3⟩
  rw [list_erase, encP.vals_app, encP.vals_take l k (by omega)]
  exact e2

end Go.Proofs.Ytiolkeghgodggah.Hd
