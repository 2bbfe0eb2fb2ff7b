/-
  Three branches, each with what it knows, plain: deeds of their own, and what others knew.
-/
import Derived.Test.YtcdlgpickjiikagTp
namespace Go.Proofs.Ytcdlgpickjiikag
namespace Plain

theorem getD_map (f : Nat → Int) (n j : Nat) (h : j < n) : ((List.range n).map f).getD j 0 = f j := by
  rw [getD_lt _ _ _ (by simpa using h)]; simp
theorem rw_merge (a b : Ta) (i : Nat) (h : i < a.moves.length) : rw (mergeT a b) i = joinR (rw a i) (rw b i) := by
  show ((List.range a.moves.length).map fun i => joinR (rw a i) (rw b i)).getD i [] = _
  rw [getD_lt _ _ _ (by simpa using h), List.getElem_map, List.getElem_range]
theorem mv_merge {n : Nat} {a b : Ta} (ha : Sq n a) (i j : Nat) (hi : i < n) (hj : j < n) : mv (mergeT a b) i j = max (mv a i j) (mv b i j) := by
  unfold mv
  rw [rw_merge a b i (by rw [ha.m]; exact hi), joinR_at _ _ _ (by rw [ha.r i hi]; exact hj)]
theorem us_merge {n : Nat} {a b : Ta} (ha : Sq n a) (i : Nat) (hi : i < n) : us (mergeT a b) i = max (us a i) (us b i) := by
  show (joinR a.used b.used).getD i 0 = _
  rw [joinR_at _ _ _ (by rw [ha.u]; exact hi)]
  rfl
theorem sq_merge {n : Nat} {a b : Ta} (ha : Sq n a) (hb : Sq n b) : Sq n (mergeT a b) where
  n1 := ha.n1
  n8 := ha.n8
  u := (joinR_len _ _).trans ha.u
  m := by simp [mergeT, ha.m]
  r := fun i hi => by rw [rw_merge a b i (by rw [ha.m]; exact hi), joinR_len, ha.r i hi]
  bm := fun i j hi hj => by
    rw [mv_merge ha i j hi hj]
    have := ha.bm i j hi hj
    have := hb.bm i j hi hj
    omega
  bu := fun i hi => by
    rw [us_merge ha i hi]
    have := ha.bu i hi
    have := hb.bu i hi
    omega
theorem Sq.ext {n : Nat} {a b : Ta} (ha : Sq n a) (hb : Sq n b) (hm : ∀ i j, i < n → j < n → mv a i j = mv b i j) (hu : ∀ i, i < n → us a i = us b i) : a = b := by
  obtain ⟨am, au⟩ := a
  obtain ⟨bm, bu⟩ := b
  have e1 : au = bu := ext_getD (ha.u.trans hb.u.symm) fun j hj => hu j (by rw [← ha.u]; exact hj)
  have e2 : am = bm := by
    apply List.ext_getElem (ha.m.trans hb.m.symm)
    intro i h1 h2
    have hi : i < n := by rw [← ha.m]; exact h1
    have r1 : rw ⟨am, au⟩ i = am[i] := getD_lt am i [] h1
    have r2 : rw ⟨bm, bu⟩ i = bm[i] := getD_lt bm i [] h2
    have l1 := ha.r i hi
    have l2 := hb.r i hi
    have hx := fun j hj => hm i j hi hj
    unfold mv at hx
    rw [r1] at l1 hx
    rw [r2] at l2 hx
    exact ext_getD (l1.trans l2.symm) fun j hj => hx j (Nat.lt_of_lt_of_eq hj l1)
  rw [e1, e2]
theorem mergeE_sq {n : Nat} {a b : Ta} (ha : Sq n a) (hb : Sq n b) : mergeE a b = 0 := by
  unfold mergeE
  rw [if_pos ⟨mayT_iff.2 (by rw [ha.u]; exact ha), mayT_iff.2 (by rw [hb.u]; exact hb)⟩, if_pos (ha.u.trans hb.u.symm)]
theorem leftE_sq {n : Nat} {a : Ta} (ha : Sq n a) {o : Int} (h0 : 0 ≤ o) (h1 : o < n) : leftE a o = 0 := by
  unfold leftE
  rw [if_pos (mayT_iff.2 (by rw [ha.u]; exact ha)), if_pos ⟨h0, by rw [ha.u]; exact h1⟩]
theorem merge_comm {n : Nat} {a b : Ta} (ha : Sq n a) (hb : Sq n b) : mergeT a b = mergeT b a :=
  Sq.ext (sq_merge ha hb) (sq_merge hb ha) (fun i j hi hj => by rw [mv_merge ha i j hi hj, mv_merge hb i j hi hj]; omega) (fun i hi => by rw [us_merge ha i hi, us_merge hb i hi]; omega)
theorem merge_assoc {n : Nat} {a b c : Ta} (ha : Sq n a) (hb : Sq n b) (hc : Sq n c) : mergeT (mergeT a b) c = mergeT a (mergeT b c) :=
  Sq.ext (sq_merge (sq_merge ha hb) hc) (sq_merge ha (sq_merge hb hc))
    (fun i j hi hj => by rw [mv_merge (sq_merge ha hb) i j hi hj, mv_merge ha i j hi hj, mv_merge ha i j hi hj, mv_merge hb i j hi hj]; omega)
    (fun i hi => by rw [us_merge (sq_merge ha hb) i hi, us_merge ha i hi, us_merge ha i hi, us_merge hb i hi]; omega)
theorem merge_self {n : Nat} {a : Ta} (ha : Sq n a) : mergeT a a = a :=
  Sq.ext (sq_merge ha ha) ha (fun i j hi hj => by rw [mv_merge ha i j hi hj]; omega) (fun i hi => by rw [us_merge ha i hi]; omega)

theorem getD_set' (l : List (List Int)) (i j : Nat) (x : List Int) (hi : i < l.length) : (l.set i x).getD j [] = if i = j then x else l.getD j [] := by
  rw [List.getD_eq_getElem?_getD, List.getElem?_set]
  by_cases h : i = j
  · rw [if_pos h, if_pos hi, if_pos h]; rfl
  · rw [if_neg h, if_neg h, List.getD_eq_getElem?_getD]
/-- A deed that changes a row. -/
theorem mv_do {t : Ta} {d : De} (h : OkD t d) (h3 : d.kind ≠ 3) (i j : Nat) : mv (doT t d) i j = if i = d.who.toNat ∧ j = (plD d).toNat then mv t i j + d.count else mv t i j := by
  have hw : d.who.toNat < t.moves.length := by rw [h.sq.m]; have := h.w0; have := h.w1; omega
  have hp : (plD d).toNat < (rw t d.who.toNat).length := by rw [h.sq.r _ (by rw [h.sq.m] at hw; exact hw)]; have := h.p0; have := h.p1; omega
  unfold doT
  rw [if_neg h3]
  show ((t.moves.set _ _).getD i []).getD j 0 = _
  rw [getD_set' _ _ _ _ hw]
  by_cases e : d.who.toNat = i
  · subst e
    rw [if_pos rfl, getD_set _ _ _ _ hp]
    by_cases e2 : (plD d).toNat = j
    · subst e2; rw [if_pos rfl, if_pos ⟨rfl, rfl⟩]
    · rw [if_neg e2, if_neg (fun h => e2 h.2.symm)]; rfl
  · rw [if_neg e, if_neg (fun h => e h.1.symm)]; rfl
theorem mv_use {t : Ta} {d : De} (h3 : d.kind = 3) (i j : Nat) : mv (doT t d) i j = mv t i j := by
  unfold doT
  rw [if_pos h3]
  rfl
theorem us_do {t : Ta} {d : De} (h3 : d.kind ≠ 3) (i : Nat) : us (doT t d) i = us t i := by
  unfold doT
  rw [if_neg h3]
  rfl
theorem us_use {t : Ta} {d : De} (h : OkD t d) (h3 : d.kind = 3) (i : Nat) : us (doT t d) i = if i = d.who.toNat then us t i + d.count else us t i := by
  have hw : d.who.toNat < t.used.length := by have := h.w0; have := h.w1; omega
  unfold doT
  rw [if_pos h3]
  show (t.used.set _ _).getD i 0 = _
  rw [getD_set _ _ _ _ hw]
  by_cases e : d.who.toNat = i
  · subst e; rw [if_pos rfl, if_pos rfl]
  · rw [if_neg e, if_neg (fun h => e h.symm)]; rfl
theorem sq_do {n : Nat} {t : Ta} {d : De} (h : OkD t d) (hn : t.used.length = n) (hc : cellD t d + d.count ≤ 1048576) : Sq n (doT t d) := by
  have hs := h.sq
  rw [hn] at hs
  have hw : d.who.toNat < t.moves.length := by rw [hs.m]; have := h.w0; have := h.w1; omega
  have c0 := h.c0
  by_cases h3 : d.kind = 3
  · have hc2 : us t d.who.toNat + d.count ≤ 1048576 := by unfold cellD at hc; rw [if_pos h3] at hc; exact hc
    refine ⟨hs.n1, hs.n8, ?_, ?_, fun i hi => ?_, fun i j hi hj => ?_, fun i hi => ?_⟩
    · unfold doT; rw [if_pos h3]; show (t.used.set _ _).length = n; rw [List.length_set]; exact hn
    · unfold doT; rw [if_pos h3]; exact hs.m
    · unfold doT; rw [if_pos h3]; exact hs.r i hi
    · rw [mv_use h3]; exact hs.bm i j hi hj
    · rw [us_use h h3]
      have := hs.bu i hi
      split
      · rename_i e; subst e; omega
      · exact this
  · have hc2 : mv t d.who.toNat (plD d).toNat + d.count ≤ 1048576 := by unfold cellD at hc; rw [if_neg h3] at hc; exact hc
    refine ⟨hs.n1, hs.n8, ?_, ?_, fun i hi => ?_, fun i j hi hj => ?_, fun i hi => ?_⟩
    · unfold doT; rw [if_neg h3]; exact hn
    · unfold doT; rw [if_neg h3]; show (t.moves.set _ _).length = n; rw [List.length_set]; exact hs.m
    · unfold doT; rw [if_neg h3]; show ((t.moves.set _ _).getD i []).length = n
      rw [getD_set' _ _ _ _ hw]
      split
      · rename_i e; subst e; rw [List.length_set]; exact hs.r _ hi
      · exact hs.r i hi
    · rw [mv_do h h3]
      have := hs.bm i j hi hj
      split
      · rename_i e; obtain ⟨rfl, rfl⟩ := e; omega
      · exact this
    · rw [us_do h3]; exact hs.bu i hi

theorem left3 {t : Ta} (h : Sq 3 t) (o : Nat) : leftT t o = mv t o o - us t o + (mv t 0 o - mv t o 0) + (mv t 1 o - mv t o 1) + (mv t 2 o - mv t o 2) := by
  unfold leftT
  rw [h.u]
  show mv t o o - us t o + (((0 + (mv t 0 o - mv t o 0)) + (mv t 1 o - mv t o 1)) + (mv t 2 o - mv t o 2)) = _
  omega

/-- Of an affair: who, with whom, how many. -/
def wA (a : De) : Nat := (a.who % 3).toNat
def toA (a : De) : Nat := (wA a + 1 + (a.to % 2).toNat) % 3
def ctA (a : De) : Int := 1 + a.count % 9
def kdA (a : De) : Int := a.kind % 5
theorem wA_lt (a : De) : wA a < 3 := by unfold wA; omega
theorem toA_lt (a : De) : toA a < 3 := Nat.mod_lt _ (by omega)
theorem toA_ne (a : De) : toA a ≠ wA a := by unfold toA wA; omega
theorem ctA_bd (a : De) : 1 ≤ ctA a ∧ ctA a ≤ 9 := by unfold ctA; omega
def deedA (a : De) : De := if kdA a = 0 then ⟨2, wA a, toA a, ctA a⟩ else ⟨3, wA a, 0, ctA a⟩
def upd (T : Nat → Ta) (w : Nat) (x : Ta) : Nat → Ta := fun j => if j = w then x else T j
def stepA (T : Nat → Ta) (a : De) : Nat → Ta :=
  if 3 ≤ kdA a then upd T (wA a) (mergeT (T (wA a)) (T (toA a)))
  else if leftT (T (wA a)) (wA a) < ctA a then T else upd T (wA a) (doT (T (wA a)) (deedA a))
def blank (n : Nat) : Ta := ⟨List.replicate n (List.replicate n 0), List.replicate n 0⟩
def begin3 (f : Int) : Ta := ⟨[[f, 0, 0], [0, 0, 0], [0, 0, 0]], [0, 0, 0]⟩
def first3 (f : Int) : Nat → Ta := fun j => if j = 0 then begin3 f else blank 3
def knownT (f : Int) (l : List De) : Nat → Nat → Ta
  | 0 => first3 f
  | k + 1 => stepA (knownT f l k) (l.getD k default)

structure Inv (f : Int) (k : Nat) (T : Nat → Ta) : Prop where
  sq : ∀ v, v < 3 → Sq 3 (T v)
  own : ∀ v w j, v < 3 → w < 3 → j < 3 → mv (T v) w j ≤ mv (T w) w j
  ownu : ∀ v w, v < 3 → w < 3 → us (T v) w ≤ us (T w) w
  le : ∀ w, w < 3 → 0 ≤ leftT (T w) w
  dg : ∀ w, w < 3 → mv (T w) w w = if w = 0 then f else 0
  bm : ∀ w j, w < 3 → j < 3 → mv (T w) w j ≤ 50 + 9 * k
  bu : ∀ w, w < 3 → us (T w) w ≤ 50 + 9 * k

theorem cases3 {P : Nat → Prop} (h0 : P 0) (h1 : P 1) (h2 : P 2) : ∀ i, i < 3 → P i := by
  intro i hi
  rcases i with _ | _ | _ | i
  · exact h0
  · exact h1
  · exact h2
  · omega
theorem blank_sq : Sq 3 (blank 3) :=
  ⟨by omega, by omega, rfl, rfl, cases3 rfl rfl rfl, fun i j hi hj => by
    revert i
    exact cases3 (cases3 (P := fun j => 0 ≤ mv (blank 3) 0 j ∧ mv (blank 3) 0 j ≤ 1048576) (by decide) (by decide) (by decide) j hj) (cases3 (P := fun j => 0 ≤ mv (blank 3) 1 j ∧ mv (blank 3) 1 j ≤ 1048576) (by decide) (by decide) (by decide) j hj) (cases3 (P := fun j => 0 ≤ mv (blank 3) 2 j ∧ mv (blank 3) 2 j ≤ 1048576) (by decide) (by decide) (by decide) j hj), cases3 (by decide) (by decide) (by decide)⟩
theorem mv_blank (i j : Nat) (hi : i < 3) (hj : j < 3) : mv (blank 3) i j = 0 := by
  revert i
  exact cases3 (cases3 (P := fun j => mv (blank 3) 0 j = 0) rfl rfl rfl j hj) (cases3 (P := fun j => mv (blank 3) 1 j = 0) rfl rfl rfl j hj) (cases3 (P := fun j => mv (blank 3) 2 j = 0) rfl rfl rfl j hj)
theorem us_blank (i : Nat) (hi : i < 3) : us (blank 3) i = 0 := cases3 (P := fun i => us (blank 3) i = 0) rfl rfl rfl i hi
theorem mv_begin (f : Int) (i j : Nat) (hi : i < 3) (hj : j < 3) : mv (begin3 f) i j = if i = 0 ∧ j = 0 then f else 0 := by
  revert i
  exact cases3 (cases3 (P := fun j => mv (begin3 f) 0 j = if 0 = 0 ∧ j = 0 then f else 0) rfl rfl rfl j hj) (cases3 (P := fun j => mv (begin3 f) 1 j = if 1 = 0 ∧ j = 0 then f else 0) rfl rfl rfl j hj) (cases3 (P := fun j => mv (begin3 f) 2 j = if 2 = 0 ∧ j = 0 then f else 0) rfl rfl rfl j hj)
theorem us_begin (f : Int) (i : Nat) (hi : i < 3) : us (begin3 f) i = 0 := cases3 (P := fun i => us (begin3 f) i = 0) rfl rfl rfl i hi
theorem begin_sq (f : Int) (h : 0 ≤ f ∧ f ≤ 1048576) : Sq 3 (begin3 f) :=
  ⟨by omega, by omega, rfl, rfl, cases3 rfl rfl rfl, fun i j hi hj => by rw [mv_begin f i j hi hj]; split <;> omega, fun i hi => by rw [us_begin f i hi]; omega⟩

theorem inv_first (f : Int) (h : 1 ≤ f ∧ f ≤ 50) : Inv f 0 (first3 f) := by
  have e0 : first3 f 0 = begin3 f := rfl
  have e1 : first3 f 1 = blank 3 := rfl
  have e2 : first3 f 2 = blank 3 := rfl
  have hm : ∀ v w j, v < 3 → w < 3 → j < 3 → mv (first3 f v) w j = if v = 0 ∧ w = 0 ∧ j = 0 then f else 0 := by
    intro v w j hv hw hj
    unfold first3
    by_cases c : v = 0
    · subst c
      rw [if_pos rfl, mv_begin f w j hw hj]
      simp
    · rw [if_neg c, mv_blank w j hw hj, if_neg (fun h => c h.1)]
  have hu : ∀ v w, v < 3 → w < 3 → us (first3 f v) w = 0 := by
    intro v w hv hw
    unfold first3
    by_cases c : v = 0
    · rw [if_pos c, us_begin f w hw]
    · rw [if_neg c, us_blank w hw]
  have hs : ∀ v, v < 3 → Sq 3 (first3 f v) := cases3 (begin_sq f (by omega)) blank_sq blank_sq
  refine ⟨hs, fun v w j hv hw hj => ?_, fun v w hv hw => ?_, fun w hw => ?_, fun w hw => ?_, fun w j hw hj => ?_, fun w hw => ?_⟩
  · rw [hm v w j hv hw hj, hm w w j hw hw hj]; split <;> split <;> omega
  · rw [hu v w hv hw, hu w w hw hw]; omega
  · rw [left3 (hs w hw), hm w w w hw hw hw, hu w w hw hw, hm w 0 w hw (by omega) hw, hm w 1 w hw (by omega) hw, hm w 2 w hw (by omega) hw, hm w w 0 hw hw (by omega), hm w w 1 hw hw (by omega), hm w w 2 hw hw (by omega)]
    revert w
    refine cases3 ?_ ?_ ?_ <;> simp <;> omega
  · rw [hm w w w hw hw hw]
    by_cases c : w = 0
    · rw [if_pos c, if_pos ⟨c, c, c⟩]
    · rw [if_neg c, if_neg (fun h => c h.1)]
  · rw [hm w w j hw hw hj]; split <;> omega
  · rw [hu w w hw hw]; omega

theorem upd_at (T : Nat → Ta) (w : Nat) (x : Ta) : upd T w x w = x := if_pos rfl
theorem upd_ne (T : Nat → Ta) {w v : Nat} (x : Ta) (h : v ≠ w) : upd T w x v = T v := if_neg h

/-- What the owner does to its own row, as far as the others know less. -/
theorem inv_merge {f : Int} {k : Nat} {T : Nat → Ta} (h : Inv f k T) (w o : Nat) (hw : w < 3) (ho : o < 3) : Inv f (k + 1) (upd T w (mergeT (T w) (T o))) := by
  have hsw := h.sq w hw
  have hso := h.sq o ho
  have hrow : ∀ j, j < 3 → mv (mergeT (T w) (T o)) w j = mv (T w) w j := fun j hj => by
    rw [mv_merge hsw w j hw hj]
    have := h.own o w j ho hw hj
    omega
  have huse : us (mergeT (T w) (T o)) w = us (T w) w := by
    rw [us_merge hsw w hw]
    have := h.ownu o w ho hw
    omega
  have hmv : ∀ v a j, v < 3 → a < 3 → j < 3 → mv (upd T w (mergeT (T w) (T o)) v) a j ≤ mv (T a) a j := by
    intro v a j hv ha hj
    by_cases c : v = w
    · subst c
      rw [upd_at, mv_merge hsw a j ha hj]
      have := h.own v a j hv ha hj
      have := h.own o a j ho ha hj
      omega
    · rw [upd_ne _ _ c]; exact h.own v a j hv ha hj
  have hus : ∀ v a, v < 3 → a < 3 → us (upd T w (mergeT (T w) (T o)) v) a ≤ us (T a) a := by
    intro v a hv ha
    by_cases c : v = w
    · subst c
      rw [upd_at, us_merge hsw a ha]
      have := h.ownu v a hv ha
      have := h.ownu o a ho ha
      omega
    · rw [upd_ne _ _ c]; exact h.ownu v a hv ha
  have hself : ∀ a j, a < 3 → j < 3 → mv (upd T w (mergeT (T w) (T o)) a) a j = mv (T a) a j := by
    intro a j ha hj
    by_cases c : a = w
    · subst c; rw [upd_at]; exact hrow j hj
    · rw [upd_ne _ _ c]
  have hselfu : ∀ a, a < 3 → us (upd T w (mergeT (T w) (T o)) a) a = us (T a) a := by
    intro a ha
    by_cases c : a = w
    · subst c; rw [upd_at]; exact huse
    · rw [upd_ne _ _ c]
  have hsq : ∀ v, v < 3 → Sq 3 (upd T w (mergeT (T w) (T o)) v) := by
    intro v hv
    by_cases c : v = w
    · subst c; rw [upd_at]; exact sq_merge hsw hso
    · rw [upd_ne _ _ c]; exact h.sq v hv
  refine ⟨hsq, fun v a j hv ha hj => ?_, fun v a hv ha => ?_, fun a ha => ?_, fun a ha => ?_, fun a j ha hj => ?_, fun a ha => ?_⟩
  · rw [hself a j ha hj]; exact hmv v a j hv ha hj
  · rw [hselfu a ha]; exact hus v a hv ha
  · have hle := h.le a ha
    by_cases c : a = w
    · subst c
      rw [left3 hsw] at hle
      rw [upd_at, left3 (sq_merge hsw hso), hrow a ha, huse, hrow 0 (by omega), hrow 1 (by omega), hrow 2 (by omega), mv_merge hsw 0 a (by omega) ha, mv_merge hsw 1 a (by omega) ha, mv_merge hsw 2 a (by omega) ha]
      omega
    · rw [upd_ne _ _ c]; exact hle
  · rw [hself a a ha ha]; exact h.dg a ha
  · rw [hself a j ha hj]; have := h.bm a j ha hj; omega
  · rw [hselfu a ha]; have := h.bu a ha; omega

theorem refE_mv {t : Ta} (h : Sq 3 t) (w o : Nat) (c : Int) (hw : w < 3) (ho : o < 3) (hne : o ≠ w) (hc : 1 ≤ c ∧ c ≤ 9) : refE t ⟨2, w, o, c⟩ = if leftT t w < c then 9 else 0 := by
  have hu := h.u
  unfold refE
  rw [if_pos (mayT_iff.2 (by rw [h.u]; exact h)), if_pos (.inr (.inl rfl)), if_pos ⟨by simp only []; omega, fun _ => by simp only []; omega, by simp only []; omega, by simp only []; omega⟩]
  by_cases c1 : leftT t w < c
  · rw [if_pos ⟨by simp, c1⟩, if_pos c1]
  · rw [if_neg (fun h => c1 h.2), if_neg c1]
theorem refE_us {t : Ta} (h : Sq 3 t) (w : Nat) (x c : Int) (hw : w < 3) (hc : 1 ≤ c ∧ c ≤ 9) : refE t ⟨3, w, x, c⟩ = if leftT t w < c then 9 else 0 := by
  have hu := h.u
  unfold refE
  rw [if_pos (mayT_iff.2 (by rw [h.u]; exact h)), if_pos (.inr (.inr rfl)), if_pos ⟨by simp only []; omega, fun h => by simp only [] at h; omega, by simp only []; omega, by simp only []; omega⟩]
  by_cases c1 : leftT t w < c
  · rw [if_pos ⟨by simp, c1⟩, if_pos c1]
  · rw [if_neg (fun h => c1 h.2), if_neg c1]
theorem doE_mv {t : Ta} (h : Sq 3 t) (w o : Nat) (c : Int) (hw : w < 3) (ho : o < 3) (hne : o ≠ w) (hc : 1 ≤ c ∧ c ≤ 9) (hb : mv t w o ≤ 1000000) : doE t ⟨2, w, o, c⟩ = if leftT t w < c then 9 else 0 := by
  unfold doE
  rw [refE_mv h w o c hw ho hne hc]
  by_cases c1 : leftT t w < c
  · simp only [if_pos c1]; rfl
  · rw [if_neg c1, if_pos rfl, if_neg]
    show ¬ 1048576 < mv t w o + c
    omega
theorem doE_us {t : Ta} (h : Sq 3 t) (w : Nat) (x c : Int) (hw : w < 3) (hc : 1 ≤ c ∧ c ≤ 9) (hb : us t w ≤ 1000000) : doE t ⟨3, w, x, c⟩ = if leftT t w < c then 9 else 0 := by
  unfold doE
  rw [refE_us h w x c hw hc]
  by_cases c1 : leftT t w < c
  · simp only [if_pos c1]; rfl
  · rw [if_neg c1, if_pos rfl, if_neg]
    show ¬ 1048576 < us t w + c
    omega

theorem inv_move {f : Int} {k : Nat} {T : Nat → Ta} (h : Inv f k T) (hk : k ≤ 1000) (w o : Nat) (c : Int) (hw : w < 3) (ho : o < 3) (hne : o ≠ w) (hc : 1 ≤ c ∧ c ≤ 9) (hl : ¬ leftT (T w) w < c) : Inv f (k + 1) (upd T w (doT (T w) ⟨2, w, o, c⟩)) := by
  have hsw := h.sq w hw
  have ok : OkD (T w) ⟨2, w, o, c⟩ := refE_ok (by rw [refE_mv hsw w o c hw ho hne hc, if_neg hl])
  have hbm := h.bm w o hw ho
  have hm : ∀ i j, mv (doT (T w) ⟨2, w, o, c⟩) i j = if i = w ∧ j = o then mv (T w) i j + c else mv (T w) i j := mv_do ok (by show ¬ (2 : Int) = 3; omega)
  have hu : ∀ i, us (doT (T w) ⟨2, w, o, c⟩) i = us (T w) i := us_do (by show ¬ (2 : Int) = 3; omega)
  have hS : Sq 3 (doT (T w) ⟨2, w, o, c⟩) := sq_do ok hsw.u (show mv (T w) w o + c ≤ 1048576 by omega)
  have hsq : ∀ v, v < 3 → Sq 3 (upd T w (doT (T w) ⟨2, w, o, c⟩) v) := by
    intro v hv
    by_cases e : v = w
    · subst e; rw [upd_at]; exact hS
    · rw [upd_ne _ _ e]; exact h.sq v hv
  refine ⟨hsq, fun v a j hv ha hj => ?_, fun v a hv ha => ?_, fun a ha => ?_, fun a ha => ?_, fun a j ha hj => ?_, fun a ha => ?_⟩
  · have h1 := h.own v a j hv ha hj
    by_cases e : v = w
    · subst e
      by_cases e2 : a = v
      · subst e2; omega
      · rw [upd_at, upd_ne _ _ e2, hm, if_neg (fun h => e2 h.1)]; exact h1
    · rw [upd_ne _ _ e]
      by_cases e2 : a = w
      · subst e2; rw [upd_at, hm]; split <;> omega
      · rw [upd_ne _ _ e2]; exact h1
  · have h1 := h.ownu v a hv ha
    by_cases e : v = w
    · subst e
      by_cases e2 : a = v
      · subst e2; omega
      · rw [upd_at, upd_ne _ _ e2, hu]; exact h1
    · rw [upd_ne _ _ e]
      by_cases e2 : a = w
      · subst e2; rw [upd_at, hu]; exact h1
      · rw [upd_ne _ _ e2]; exact h1
  · have hle := h.le a ha
    by_cases e : a = w
    · subst e
      rw [left3 hsw] at hl
      rw [upd_at, left3 hS, hu]
      simp only [hm]
      clear hm hu hbm hle hS hsq ok
      have hcase : (a = 0 ∨ a = 1 ∨ a = 2) ∧ (o = 0 ∨ o = 1 ∨ o = 2) := by omega
      rcases hcase with ⟨rfl | rfl | rfl, rfl | rfl | rfl⟩ <;> first | (exact absurd rfl hne) | (simp at hl ⊢; omega)
    · rw [upd_ne _ _ e]; exact hle
  · by_cases e : a = w
    · subst e
      rw [upd_at, hm, if_neg (fun h => hne h.2.symm)]; exact h.dg a ha
    · rw [upd_ne _ _ e]; exact h.dg a ha
  · have h1 := h.bm a j ha hj
    by_cases e : a = w
    · subst e
      rw [upd_at, hm]; split <;> omega
    · rw [upd_ne _ _ e]; omega
  · have h1 := h.bu a ha
    by_cases e : a = w
    · subst e
      rw [upd_at, hu]; omega
    · rw [upd_ne _ _ e]; omega

theorem inv_use {f : Int} {k : Nat} {T : Nat → Ta} (h : Inv f k T) (hk : k ≤ 1000) (w : Nat) (c : Int) (hw : w < 3) (hc : 1 ≤ c ∧ c ≤ 9) (hl : ¬ leftT (T w) w < c) : Inv f (k + 1) (upd T w (doT (T w) ⟨3, w, 0, c⟩)) := by
  have hsw := h.sq w hw
  have ok : OkD (T w) ⟨3, w, 0, c⟩ := refE_ok (by rw [refE_us hsw w 0 c hw hc, if_neg hl])
  have hbu := h.bu w hw
  have hm : ∀ i j, mv (doT (T w) ⟨3, w, 0, c⟩) i j = mv (T w) i j := mv_use rfl
  have hu : ∀ i, us (doT (T w) ⟨3, w, 0, c⟩) i = if i = w then us (T w) i + c else us (T w) i := us_use ok rfl
  have hS : Sq 3 (doT (T w) ⟨3, w, 0, c⟩) := sq_do ok hsw.u (show us (T w) w + c ≤ 1048576 by omega)
  have hsq : ∀ v, v < 3 → Sq 3 (upd T w (doT (T w) ⟨3, w, 0, c⟩) v) := by
    intro v hv
    by_cases e : v = w
    · subst e; rw [upd_at]; exact hS
    · rw [upd_ne _ _ e]; exact h.sq v hv
  refine ⟨hsq, fun v a j hv ha hj => ?_, fun v a hv ha => ?_, fun a ha => ?_, fun a ha => ?_, fun a j ha hj => ?_, fun a ha => ?_⟩
  · have h1 := h.own v a j hv ha hj
    by_cases e : v = w
    · subst e
      by_cases e2 : a = v
      · subst e2; omega
      · rw [upd_at, upd_ne _ _ e2, hm]; exact h1
    · rw [upd_ne _ _ e]
      by_cases e2 : a = w
      · subst e2; rw [upd_at, hm]; exact h1
      · rw [upd_ne _ _ e2]; exact h1
  · have h1 := h.ownu v a hv ha
    by_cases e : v = w
    · subst e
      by_cases e2 : a = v
      · subst e2; omega
      · rw [upd_at, upd_ne _ _ e2, hu, if_neg e2]; exact h1
    · rw [upd_ne _ _ e]
      by_cases e2 : a = w
      · subst e2; rw [upd_at, hu, if_pos rfl]; omega
      · rw [upd_ne _ _ e2]; exact h1
  · have hle := h.le a ha
    by_cases e : a = w
    · subst e
      rw [left3 hsw] at hl
      rw [upd_at, left3 hS, hu, if_pos rfl]
      simp only [hm]
      omega
    · rw [upd_ne _ _ e]; exact hle
  · by_cases e : a = w
    · subst e
      rw [upd_at, hm]; exact h.dg a ha
    · rw [upd_ne _ _ e]; exact h.dg a ha
  · have h1 := h.bm a j ha hj
    by_cases e : a = w
    · subst e
      rw [upd_at, hm]; omega
    · rw [upd_ne _ _ e]; omega
  · have h1 := h.bu a ha
    by_cases e : a = w
    · subst e
      rw [upd_at, hu, if_pos rfl]; omega
    · rw [upd_ne _ _ e]; omega

theorem inv_step {f : Int} {k : Nat} {T : Nat → Ta} (h : Inv f k T) (hk : k ≤ 1000) (a : De) : Inv f (k + 1) (stepA T a) := by
  unfold stepA
  by_cases h1 : 3 ≤ kdA a
  · rw [if_pos h1]; exact inv_merge h _ _ (wA_lt a) (toA_lt a)
  · rw [if_neg h1]
    by_cases h2 : leftT (T (wA a)) (wA a) < ctA a
    · rw [if_pos h2]
      exact ⟨h.sq, h.own, h.ownu, h.le, h.dg, fun w j hw hj => by have := h.bm w j hw hj; omega, fun w hw => by have := h.bu w hw; omega⟩
    · rw [if_neg h2]
      unfold deedA
      by_cases h3 : kdA a = 0
      · rw [if_pos h3]; exact inv_move h hk _ _ _ (wA_lt a) (toA_lt a) (toA_ne a) (ctA_bd a) h2
      · rw [if_neg h3]; exact inv_use h hk _ _ (wA_lt a) (ctA_bd a) h2
theorem inv_known (f : Int) (hf : 1 ≤ f ∧ f ≤ 50) (l : List De) (k : Nat) (hk : k ≤ 1000) : Inv f k (knownT f l k) := by
  induction k with
  | zero => exact inv_first f hf
  | succ k ih => exact inv_step (ih (by omega)) (by omega) _
/-- What a deed of an affair comes to. -/
theorem inv_doE {f : Int} {k : Nat} {T : Nat → Ta} (h : Inv f k T) (hk : k ≤ 1000) (a : De) : doE (T (wA a)) (deedA a) = if leftT (T (wA a)) (wA a) < ctA a then 9 else 0 := by
  have hs := h.sq _ (wA_lt a)
  unfold deedA
  by_cases h3 : kdA a = 0
  · rw [if_pos h3]
    exact doE_mv hs _ _ _ (wA_lt a) (toA_lt a) (toA_ne a) (ctA_bd a) (by have := h.bm _ _ (wA_lt a) (toA_lt a); omega)
  · rw [if_neg h3]
    exact doE_us hs _ _ _ (wA_lt a) (ctA_bd a) (by have := h.bu _ (wA_lt a); omega)

/-- What all know together. -/
def allT (T : Nat → Ta) : Nat → Ta
  | 0 => blank 3
  | k + 1 => mergeT (allT T k) (T k)
theorem allT_sq {T : Nat → Ta} (h : ∀ v, v < 3 → Sq 3 (T v)) (k : Nat) (hk : k ≤ 3) : Sq 3 (allT T k) := by
  induction k with
  | zero => exact blank_sq
  | succ k ih => exact sq_merge (ih (by omega)) (h k (by omega))
theorem mv_all {f : Int} {k : Nat} {T : Nat → Ta} (h : Inv f k T) (i j : Nat) (hi : i < 3) (hj : j < 3) : mv (allT T 3) i j = mv (T i) i j := by
  have s := fun k hk => allT_sq h.sq k hk
  have e1 : mv (allT T 1) i j = max (mv (allT T 0) i j) (mv (T 0) i j) := mv_merge (s 0 (by omega)) i j hi hj
  have e2 : mv (allT T 2) i j = max (mv (allT T 1) i j) (mv (T 1) i j) := mv_merge (s 1 (by omega)) i j hi hj
  have e3 : mv (allT T 3) i j = max (mv (allT T 2) i j) (mv (T 2) i j) := mv_merge (s 2 (by omega)) i j hi hj
  have e0 : mv (allT T 0) i j = 0 := mv_blank i j hi hj
  have b0 := h.own 0 i j (by omega) hi hj
  have b1 := h.own 1 i j (by omega) hi hj
  have b2 := h.own 2 i j (by omega) hi hj
  have bi := ((h.sq i hi).bm i j hi hj).1
  have c : i = 0 ∨ i = 1 ∨ i = 2 := by omega
  rcases c with rfl | rfl | rfl <;> omega
theorem us_all {f : Int} {k : Nat} {T : Nat → Ta} (h : Inv f k T) (i : Nat) (hi : i < 3) : us (allT T 3) i = us (T i) i := by
  have s := fun k hk => allT_sq h.sq k hk
  have e1 : us (allT T 1) i = max (us (allT T 0) i) (us (T 0) i) := us_merge (s 0 (by omega)) i hi
  have e2 : us (allT T 2) i = max (us (allT T 1) i) (us (T 1) i) := us_merge (s 1 (by omega)) i hi
  have e3 : us (allT T 3) i = max (us (allT T 2) i) (us (T 2) i) := us_merge (s 2 (by omega)) i hi
  have e0 : us (allT T 0) i = 0 := us_blank i hi
  have b0 := h.ownu 0 i (by omega) hi
  have b1 := h.ownu 1 i (by omega) hi
  have b2 := h.ownu 2 i (by omega) hi
  have bi := ((h.sq i hi).bu i hi).1
  have c : i = 0 ∨ i = 1 ∨ i = 2 := by omega
  rcases c with rfl | rfl | rfl <;> omega
theorem left_bd {t : Ta} (h : Sq 3 t) (o : Nat) (ho : o < 3) : -8388608 ≤ leftT t o ∧ leftT t o ≤ 8388608 := by
  rw [left3 h]
  have a1 := h.bm o o ho ho
  have a2 := h.bu o ho
  have a3 := h.bm 0 o (by omega) ho
  have a4 := h.bm 1 o (by omega) ho
  have a5 := h.bm 2 o (by omega) ho
  have a6 := h.bm o 0 ho (by omega)
  have a7 := h.bm o 1 ho (by omega)
  have a8 := h.bm o 2 ho (by omega)
  omega
theorem left_all {f : Int} {k : Nat} {T : Nat → Ta} (h : Inv f k T) (w : Nat) (hw : w < 3) : leftT (T w) w ≤ leftT (allT T 3) w := by
  rw [left3 (h.sq w hw), left3 (allT_sq h.sq 3 (by omega)), us_all h w hw, mv_all h w w hw hw, mv_all h 0 w (by omega) hw, mv_all h 1 w (by omega) hw, mv_all h 2 w (by omega) hw, mv_all h w 0 hw (by omega), mv_all h w 1 hw (by omega), mv_all h w 2 hw (by omega)]
  have b0 := h.own w 0 w hw (by omega) hw
  have b1 := h.own w 1 w hw (by omega) hw
  have b2 := h.own w 2 w hw (by omega) hw
  omega
theorem sum3 (g : Nat → Int) : sumTo g 3 = g 0 + g 1 + g 2 := by
  show ((0 + g 0) + g 1) + g 2 = _
  omega
theorem left_sum {t : Ta} (h : Sq 3 t) : sumTo (fun w => leftT t w) 3 = mv t 0 0 + mv t 1 1 + mv t 2 2 - (us t 0 + us t 1 + us t 2) := by
  rw [sum3, left3 h, left3 h, left3 h]
  omega
theorem all_sum {f : Int} {k : Nat} {T : Nat → Ta} (h : Inv f k T) : sumTo (fun w => leftT (allT T 3) w + us (allT T 3) w) 3 = f := by
  have e := left_sum (allT_sq h.sq 3 (by omega))
  rw [sum3] at e ⊢
  have d0 := h.dg 0 (by omega)
  have d1 := h.dg 1 (by omega)
  have d2 := h.dg 2 (by omega)
  have m0 := mv_all h 0 0 (by omega) (by omega)
  have m1 := mv_all h 1 1 (by omega) (by omega)
  have m2 := mv_all h 2 2 (by omega) (by omega)
  simp at d0 d1 d2
  omega
theorem used_le {f : Int} {k : Nat} {T : Nat → Ta} (h : Inv f k T) : sumTo (fun w => us (T w) w) 3 ≤ f := by
  have e := all_sum h
  rw [sum3] at e ⊢
  have l0 := left_all h 0 (by omega)
  have l1 := left_all h 1 (by omega)
  have l2 := left_all h 2 (by omega)
  have n0 := h.le 0 (by omega)
  have n1 := h.le 1 (by omega)
  have n2 := h.le 2 (by omega)
  have u0 := us_all h 0 (by omega)
  have u1 := us_all h 1 (by omega)
  have u2 := us_all h 2 (by omega)
  omega
/-- What one gives another one gets. -/
theorem move_left {t : Ta} (hs : Sq 3 t) (w o : Nat) (c : Int) (hw : w < 3) (ho : o < 3) (hne : o ≠ w) (hc : 1 ≤ c ∧ c ≤ 9) (hb : mv t w o ≤ 1000000) (hl : ¬ leftT t w < c) :
    Sq 3 (doT t ⟨2, w, o, c⟩) ∧ ∀ i, i < 3 → leftT (doT t ⟨2, w, o, c⟩) i - leftT t i = if i = o then c else if i = w then -c else 0 := by
  have ok : OkD t ⟨2, w, o, c⟩ := refE_ok (by rw [refE_mv hs w o c hw ho hne hc, if_neg hl])
  have hm : ∀ i j, mv (doT t ⟨2, w, o, c⟩) i j = if i = w ∧ j = o then mv t i j + c else mv t i j := mv_do ok (by show ¬ (2 : Int) = 3; omega)
  have hu : ∀ i, us (doT t ⟨2, w, o, c⟩) i = us t i := us_do (by show ¬ (2 : Int) = 3; omega)
  have hS : Sq 3 (doT t ⟨2, w, o, c⟩) := sq_do ok hs.u (show mv t w o + c ≤ 1048576 by omega)
  refine ⟨hS, fun i hi => ?_⟩
  rw [left3 hS, left3 hs, hu]
  simp only [hm]
  clear hl hm hu hS ok
  have hcase : (w = 0 ∨ w = 1 ∨ w = 2) ∧ (o = 0 ∨ o = 1 ∨ o = 2) ∧ (i = 0 ∨ i = 1 ∨ i = 2) := by omega
  rcases hcase with ⟨rfl | rfl | rfl, rfl | rfl | rfl, rfl | rfl | rfl⟩ <;> first | (exact absurd rfl hne) | (simp; done) | (simp; omega)
theorem before_le {f : Int} {k : Nat} {T : Nat → Ta} (h : Inv f k T) (w : Nat) (hw : w < 3) : sumTo (fun i => leftT (T w) i) 3 ≤ f := by
  rw [left_sum (h.sq w hw)]
  have d0 := h.dg 0 (by omega)
  have d1 := h.dg 1 (by omega)
  have d2 := h.dg 2 (by omega)
  simp at d0 d1 d2
  have o0 := h.own w 0 0 hw (by omega) (by omega)
  have o1 := h.own w 1 1 hw (by omega) (by omega)
  have o2 := h.own w 2 2 hw (by omega) (by omega)
  have u0 := ((h.sq w hw).bu 0 (by omega)).1
  have u1 := ((h.sq w hw).bu 1 (by omega)).1
  have u2 := ((h.sq w hw).bu 2 (by omega)).1
  omega
end Plain
end Go.Proofs.Ytcdlgpickjiikag
