/-
  Plain: records stand in the order of their values; a record that falls into two.
-/
import Derived.Test.YtnnicibkmbidpacKx
namespace Go.Proofs.Ytnnicibkmbidpac
namespace Plain

def sg (a b : Int) : Int := if a < b then -1 else if b < a then 1 else 0
/-- The order of two lists: that of the first place at which they differ. -/
def sgn : List Int → List Int → Int
  | a :: l, b :: m => if a < b then -1 else if b < a then 1 else sgn l m
  | _, _ => 0

theorem sgn_step (a b : Int) (l m : List Int) : sgn (a :: l) (b :: m) = if a < b then -1 else if b < a then 1 else sgn l m := rfl

/-- The number that bits make. -/
def big : List Nat → Nat
  | [] => 0
  | b :: bs => b * 2 ^ bs.length + big bs

theorem big_lt (bs : List Nat) (h : ∀ x ∈ bs, x < 2) : big bs < 2 ^ bs.length := by
  induction bs with
  | nil => simp [big]
  | cons b bs ih =>
    have h1 := ih (fun x hx => h x (by simp [hx]))
    have h2 := h b (by simp)
    simp only [big, List.length_cons, Nat.pow_succ]
    have : b = 0 ∨ b = 1 := by omega
    rcases this with rfl | rfl <;> omega

theorem big_append (a b : List Nat) : big (a ++ b) = big a * 2 ^ b.length + big b := by
  induction a with
  | nil => simp [big]
  | cons x a ih => simp only [List.cons_append, big, ih, List.length_append, Nat.pow_add, Nat.add_mul, Nat.mul_assoc, Nat.add_assoc]

theorem big_zeros (a : List Nat) (k : Nat) : big (a ++ List.replicate k 0) = big a * 2 ^ k := by
  rw [big_append, List.length_replicate]
  have : big (List.replicate k 0) = 0 := by
    induction k with
    | zero => rfl
    | succ k ih => simp [List.replicate_succ, big, ih]
  omega

theorem big_fbits (w v : Nat) (h : v < 2 ^ w) : big (fbits w v) = v := by
  have key : ∀ i, i ≤ w → big ((fbits w v).take i) = v / 2 ^ (w - i) := by
    intro i
    induction i with
    | zero => intro _; rw [List.take_zero, Nat.sub_zero, Nat.div_eq_of_lt h]; rfl
    | succ i ih =>
      intro hi
      rw [fbits_succ w v i (by omega), big_append, ih (by omega)]
      simp only [big, List.length_cons, List.length_nil, Nat.pow_zero, Nat.mul_one, Nat.add_zero, Nat.zero_add, Nat.pow_one]
      rw [show w - i = (w - 1 - i) + 1 by omega, show w - (i + 1) = w - 1 - i by omega, Nat.pow_succ, ← Nat.div_div_eq_div_mul]
      omega
  have := key w (Nat.le_refl _)
  rw [List.take_of_length_le (by rw [fbits_len]; exact Nat.le_refl _), Nat.sub_self] at this
  simpa using this

theorem mul_lt_step (a b p x y : Nat) (h : a < b) (hx : x < p) : a * p + x < b * p + y := by
  have : (a + 1) * p ≤ b * p := Nat.mul_le_mul_right p h
  rw [Nat.add_mul] at this
  omega

/-- Fields of the same widths stand in the order of the numbers that all their bits make. -/
theorem sgn_big (l m : List (Nat × Nat)) (hw : l.map Prod.fst = m.map Prod.fst) (hl : ∀ f ∈ l, f.2 < 2 ^ f.1) (hm : ∀ f ∈ m, f.2 < 2 ^ f.1) :
    sgn (l.map (fun f => (f.2 : Int))) (m.map (fun f => (f.2 : Int))) = sg (big (rbits l)) (big (rbits m)) := by
  induction l generalizing m with
  | nil =>
    cases m with
    | nil => rfl
    | cons g m => simp at hw
  | cons f l ih =>
    cases m with
    | nil => simp at hw
    | cons g m =>
      simp only [List.map_cons, List.cons.injEq] at hw
      have h1 := ih m hw.2 (fun x hx => hl x (by simp [hx])) (fun x hx => hm x (by simp [hx]))
      have h2 := big_fbits f.1 f.2 (hl f (by simp))
      have h3 := big_fbits g.1 g.2 (hm g (by simp))
      have h4 : (rbits l).length = (rbits m).length := by rw [rbits_len, rbits_len, hw.2]
      have h5 := big_lt (rbits l) (rbits_lt l)
      have h6 := big_lt (rbits m) (rbits_lt m)
      rw [h4] at h5
      simp only [List.map_cons, sgn_step, rbits, big_append, h2, h3, h4]
      by_cases c : f.2 < g.2
      · have := mul_lt_step f.2 g.2 (2 ^ (rbits m).length) (big (rbits l)) (big (rbits m)) c h5
        rw [if_pos (by omega)]
        unfold sg
        rw [if_pos (by omega)]
      · by_cases d : g.2 < f.2
        · have := mul_lt_step g.2 f.2 (2 ^ (rbits m).length) (big (rbits m)) (big (rbits l)) d h6
          rw [if_neg (by omega), if_pos (by omega)]
          unfold sg
          rw [if_neg (by omega), if_pos (by omega)]
        · have e : f.2 = g.2 := by omega
          rw [if_neg (by omega), if_neg (by omega), h1, e]
          unfold sg
          have : ∀ a b c : Nat, ((a + b : Nat) : Int) < ((a + c : Nat) : Int) ↔ (b : Int) < (c : Int) := by intros; omega
          simp only [this]

theorem sg_mul (a b p : Nat) (hp : 0 < p) : sg ((a * p : Nat) : Int) ((b * p : Nat) : Int) = sg a b := by
  have h1 : a * p < b * p ↔ a < b := Nat.mul_lt_mul_right hp
  have h2 : b * p < a * p ↔ b < a := Nat.mul_lt_mul_right hp
  unfold sg
  by_cases c : a < b
  · rw [if_pos (by omega), if_pos (by omega)]
  · by_cases d : b < a
    · rw [if_neg (by omega), if_pos (by omega), if_neg (by omega), if_pos (by omega)]
    · rw [if_neg (by omega), if_neg (by omega), if_neg (by omega), if_neg (by omega)]

/-- The bits of bytes that bits make. -/
theorem rbits_bytes (bs : List Nat) (h2 : ∀ x ∈ bs, x < 2) (n : Nat) (h : bs.length ≤ 8 * n) : rbits ((bytesOf bs n).map (fun b => (8, b))) = bs ++ List.replicate (8 * n - bs.length) 0 := by
  have hat := at0_lt bs h2
  have key : ∀ k, k ≤ n → rbits (((bytesOf bs n).take k).map (fun b => (8, b))) = (List.range (8 * k)).map (at0 bs) := by
    intro k
    induction k with
    | zero => intro _; rfl
    | succ k ih =>
      intro hk
      have hkl : k < (bytesOf bs n).length := by rw [bytesOf_len]; omega
      rw [List.take_succ_eq_append_getElem hkl, List.map_append, rbits_append, ih (by omega)]
      have e : (bytesOf bs n)[k] = byteOf (at0 bs) k := by simp [bytesOf]
      simp only [List.map_cons, List.map_nil, rbits, List.append_nil, e]
      rw [byteOf_num, fbits_num _ hat, show 8 * (k + 1) = 8 * k + 8 by omega, List.range_add, List.map_append, List.map_map]
      rfl
  have := key n (Nat.le_refl _)
  rw [List.take_of_length_le (by rw [bytesOf_len]; exact Nat.le_refl _)] at this
  rw [this]
  apply list_ext 0
  · simp; omega
  · intro j hj
    simp at hj
    by_cases c : j < bs.length
    · simp [hj, at0, List.getD_eq_getElem?_getD, List.getElem?_append_left c, List.getElem?_eq_getElem c]
    · have : j - bs.length < 8 * n - bs.length := by omega
      simp only [List.getD_eq_getElem?_getD, List.getElem?_append_right (show bs.length ≤ j by omega), List.getElem?_replicate, this, if_true]
      simp [hj, at0_out bs j (by omega)]

/-- Two records of the same widths stand in the order of their values. -/
theorem order (l m : List (Int × Int)) (hw : l.map Prod.fst = m.map Prod.fst) (hz : szE (l.map Prod.fst) = 0) (hl : l.all fitB = true) (hm : m.all fitB = true) :
    sgn ((packB l).map (fun x : Nat => (x : Int))) ((packB m).map (fun x : Nat => (x : Int))) = sgn (l.map Prod.snd) (m.map Prod.snd) := by
  have p1 := (packE_ok l hz hl).2
  have p2 := (packE_ok m (by rw [← hw]; exact hz) hm).2
  have hs := szE_zero _ hz
  have t1 := pk_len l
  have t2 := pk_len m
  rw [← hw] at p2 t2
  have h1 := sgn_big ((packB l).map (fun b => (8, b))) ((packB m).map (fun b => (8, b))) (by
      rw [p1, p2]
      apply List.ext_getElem
      · simp [bytesOf_len]
      · intro j _ _; simp) (by
      intro f hf
      obtain ⟨x, hx, rfl⟩ := List.mem_map.1 hf
      have := pack_lt l x hx
      simpa using this) (by
      intro f hf
      obtain ⟨x, hx, rfl⟩ := List.mem_map.1 hf
      have := pack_lt m x hx
      simpa using this)
  rw [List.map_map, List.map_map, p1, p2, rbits_bytes _ (rbits_lt _) _ (by rw [t1]; omega), rbits_bytes _ (rbits_lt _) _ (by rw [t2]; omega), t1, t2, big_zeros, big_zeros, sg_mul _ _ _ (Nat.two_pow_pos _)] at h1
  have h2 := sgn_big (l.map nat2) (m.map nat2) (by
      have e : ∀ q : List (Int × Int), (q.map nat2).map Prod.fst = (q.map Prod.fst).map Int.toNat := by intro q; simp [nat2, Function.comp_def]
      rw [e, e, hw]) (nat2_lt l hl) (nat2_lt m hm)
  have e3 : ∀ q : List (Int × Int), q.all fitB = true → (q.map nat2).map (fun f => (f.2 : Int)) = q.map Prod.snd := by
    intro q hq
    rw [List.map_map]
    apply List.map_congr_left
    intro f hf
    have := fit_nn q hq f hf
    simp only [Function.comp, nat2]
    omega
  rw [e3 l hl, e3 m hm] at h2
  rw [p1, p2, h2, ← h1]
  rfl

/-- Where the bits of a record end at a byte, what comes behind is packed by itself. -/
theorem parts (a b : List Nat) (n m : Nat) (h : a.length = 8 * n) : bytesOf (a ++ b) (n + m) = bytesOf a n ++ bytesOf b m := by
  apply list_ext 0
  · simp [bytesOf_len]
  · intro j hj
    rw [bytesOf_len] at hj
    rw [getD_bytesOf _ _ _ hj]
    by_cases c : j < n
    · rw [List.getD_eq_getElem?_getD, List.getElem?_append_left (by rw [bytesOf_len]; exact c), ← List.getD_eq_getElem?_getD, getD_bytesOf _ _ _ c]
      refine byteOf_congr _ _ _ fun t ht => ?_
      unfold at0
      rw [List.getD_eq_getElem?_getD, List.getElem?_append_left (by omega), ← List.getD_eq_getElem?_getD]
    · rw [List.getD_eq_getElem?_getD, List.getElem?_append_right (by rw [bytesOf_len]; omega), bytesOf_len, ← List.getD_eq_getElem?_getD, getD_bytesOf _ _ _ (by omega)]
      unfold byteOf
      have : ∀ t, at0 (a ++ b) (8 * j + t) = at0 b (8 * (j - n) + t) := by
        intro t
        unfold at0
        rw [List.getD_eq_getElem?_getD, List.getElem?_append_right (by omega), ← List.getD_eq_getElem?_getD, h, show 8 * j + t - 8 * n = 8 * (j - n) + t by omega]
      have t0 := this 0
      rw [Nat.add_zero, Nat.add_zero] at t0
      rw [t0, this 1, this 2, this 3, this 4, this 5, this 6, this 7]

theorem sgn_drop (X Y : List Int) (j : Nat) (hx : j < X.length) (hy : j < Y.length) : sgn (X.drop j) (Y.drop j) = if X.getD j 0 < Y.getD j 0 then -1 else if Y.getD j 0 < X.getD j 0 then 1 else sgn (X.drop (j + 1)) (Y.drop (j + 1)) := by
  rw [List.drop_eq_getElem_cons hx, List.drop_eq_getElem_cons hy, sgn_step]
  simp [List.getD_eq_getElem?_getD, List.getElem?_eq_getElem hx, List.getElem?_eq_getElem hy]
theorem sgn_end (X Y : List Int) (j : Nat) (hx : X.length ≤ j) : sgn (X.drop j) (Y.drop j) = 0 := by
  rw [List.drop_of_length_le hx]; rfl
theorem sgn_bd (X Y : List Int) : -1 ≤ sgn X Y ∧ sgn X Y ≤ 1 := by
  induction X generalizing Y with
  | nil => simp [sgn]
  | cons a X ih =>
    cases Y with
    | nil => simp [sgn]
    | cons b Y =>
      rw [sgn_step]
      have := ih Y
      split
      · omega
      · split <;> omega

theorem snoc_sz (ws : List Int) (x : Int) (h : ws.all okW = true) (hl : ws.length ≤ 39) (hx : 1 ≤ x ∧ x ≤ 60) : (ws ++ [x]).all okW = true ∧ szE (ws ++ [x]) = 0 ∧ 0 < szN (ws ++ [x]) := by
  have h1 : (ws ++ [x]).all okW = true := by rw [List.all_append, h]; simp [(okW_iff x).2 hx]
  have h2 := sz_yes (ws ++ [x]) (by simp; omega) h1
  refine ⟨h1, h2.1, ?_⟩
  rcases Nat.eq_zero_or_pos (szN (ws ++ [x])) with e | e
  · have := sz_empty _ h2.1 e
    simp at this
  · exact e

theorem fl_order (ws xs ys : List Int) (hz : szE ws = 0) :
    sgn ((packB (flist ws xs ws.length)).map (fun x : Nat => (x : Int))) ((packB (flist ws ys ws.length)).map (fun x : Nat => (x : Int))) = sgn ((flist ws xs ws.length).map Prod.snd) ((flist ws ys ws.length).map Prod.snd) :=
  order _ _ (by rw [flist_fst, flist_fst]) (by rw [flist_fst]; exact hz) (flist_fit _ _ _) (flist_fit _ _ _)
end Plain

theorem snd_getD (l : List (Int × Int)) (j : Nat) (h : j < l.length) : (l.map Prod.snd).getD j 0 = (l.getD j (0, 0)).2 := by
  simp [List.getD_eq_getElem?_getD, List.getElem?_eq_getElem h]
theorem cast_getD (l : List Nat) (j : Nat) (h : j < l.length) : (l.map (fun x : Nat => (x : Int))).getD j 0 = ((l.getD j 0 : Nat) : Int) := by
  simp [List.getD_eq_getElem?_getD, List.getElem?_eq_getElem h]
end Go.Proofs.Ytnnicibkmbidpac
