/-
  Entries, plain: the order of the newer; merges in whatever order; entries of notes.
-/
import Derived.Test.YtiolkeghgodggakEp
namespace Go.Proofs.Ytiolkeghgodggak
namespace Plain

theorem newer_irr (a : En) : newer a a = false := by unfold newer; simp
theorem newer_asymm {a b : En} (h : newer a b = true) : newer b a = false := by
  unfold newer at h ⊢
  by_cases h1 : a.time = b.time
  · rw [if_pos h1] at h
    rw [if_pos h1.symm]
    by_cases h2 : a.who = b.who
    · rw [if_pos h2] at h
      rw [if_pos h2.symm]
      by_cases h3 : a.gone = b.gone
      · rw [if_pos h3] at h
        rw [if_pos h3.symm]
        simp at h ⊢
        omega
      · rw [if_neg h3] at h
        rw [if_neg (fun e => h3 e.symm)]
        cases ha : a.gone <;> cases hb : b.gone <;> simp_all
    · rw [if_neg h2] at h
      rw [if_neg (fun e => h2 e.symm)]
      simp at h ⊢
      omega
  · rw [if_neg h1] at h
    rw [if_neg (fun e => h1 e.symm)]
    simp at h ⊢
    omega
theorem newer_total {a b : En} (hk : a.key = b.key) (h1 : newer a b = false) (h2 : newer b a = false) : a = b := by
  unfold newer at h1 h2
  by_cases e1 : a.time = b.time
  · rw [if_pos e1] at h1
    rw [if_pos e1.symm] at h2
    by_cases e2 : a.who = b.who
    · rw [if_pos e2] at h1
      rw [if_pos e2.symm] at h2
      by_cases e3 : a.gone = b.gone
      · rw [if_pos e3] at h1
        rw [if_pos e3.symm] at h2
        simp at h1 h2
        cases a; cases b
        simp at hk e1 e2 e3 h1 h2 ⊢
        exact ⟨hk, by omega, e1, e2, e3⟩
      · rw [if_neg e3] at h1
        rw [if_neg (fun e => e3 e.symm)] at h2
        rw [h1, h2] at e3
        exact absurd rfl e3
    · rw [if_neg e2] at h1
      rw [if_neg (fun e => e2 e.symm)] at h2
      simp at h1 h2
      omega
  · rw [if_neg e1] at h1
    rw [if_neg (fun e => e1 e.symm)] at h2
    simp at h1 h2
    omega
theorem newer_trans {a b c : En} (h1 : newer a b = true) (h2 : newer b c = true) : newer a c = true := by
  unfold newer at h1 h2 ⊢
  by_cases t1 : a.time = b.time
  · rw [if_pos t1] at h1
    by_cases t2 : b.time = c.time
    · rw [if_pos t2] at h2
      rw [if_pos (t1.trans t2)]
      by_cases w1 : a.who = b.who
      · rw [if_pos w1] at h1
        by_cases w2 : b.who = c.who
        · rw [if_pos w2] at h2
          rw [if_pos (w1.trans w2)]
          cases ha : a.gone <;> cases hb : b.gone <;> cases hc : c.gone <;> simp_all
          all_goals omega
        · rw [if_neg w2] at h2
          rw [if_neg (fun e => w2 (w1.symm.trans e))]
          simp at h2 ⊢
          omega
      · rw [if_neg w1] at h1
        by_cases w2 : b.who = c.who
        · rw [if_neg (fun e => w1 (e.trans w2.symm))]
          simp at h1 ⊢
          omega
        · rw [if_neg w2] at h2
          simp at h1 h2
          rw [if_neg (by omega)]
          simp
          omega
    · rw [if_neg t2] at h2
      rw [if_neg (fun e => t2 (t1.symm.trans e))]
      simp at h2 ⊢
      omega
  · rw [if_neg t1] at h1
    by_cases t2 : b.time = c.time
    · rw [if_neg (fun e => t1 (e.trans t2.symm))]
      simp at h1 ⊢
      omega
    · rw [if_neg t2] at h2
      simp at h1 h2
      rw [if_neg (by omega)]
      simp
      omega
/-- What is not newer than what is not newer is not newer. -/
theorem newer_not {a b c : En} (_hab : a.key = b.key) (hbc : b.key = c.key) (h1 : newer a b = false) (h2 : newer b c = false) : newer a c = false := by
  cases h : newer a c with
  | false => rfl
  | true =>
    cases h3 : newer c b with
    | true => rw [newer_trans h h3] at h1; cases h1
    | false =>
      have := newer_total hbc h2 h3
      subst this
      rw [h] at h1
      cases h1

theorem top_comm {a b : En} (h : a.key = b.key) : top a b = top b a := by
  unfold top
  cases h1 : newer b a with
  | true => rw [newer_asymm h1]; rfl
  | false =>
    cases h2 : newer a b with
    | true => rfl
    | false => exact (newer_total h h2 h1)
theorem top_same (a : En) : top a a = a := by unfold top; rw [newer_irr]; rfl
theorem top_assoc {a b c : En} (h1 : a.key = b.key) (h2 : b.key = c.key) : top (top a b) c = top a (top b c) := by
  unfold top
  cases hba : newer b a with
  | true =>
    cases hcb : newer c b with
    | true =>
      simp only [if_true]
      rw [newer_trans hcb hba, hcb]
      rfl
    | false => simp [hba, hcb]
  | false =>
    cases hcb : newer c b with
    | true => simp
    | false =>
      simp only [Bool.false_eq_true, if_false]
      rw [newer_not h2.symm h1.symm hcb hba, hba]
      rfl

theorem look_keys {k : Int} {l m : List En} {x y : En} (h1 : look k l = some x) (h2 : look k m = some y) : x.key = y.key := by
  rw [(look_key h1).1, (look_key h2).1]
theorem comb_comm (k : Int) (a b : List En) : comb (look k a) (look k b) = comb (look k b) (look k a) := by
  cases h1 : look k a with
  | none => rw [none_comb, comb_none]
  | some x =>
    cases h2 : look k b with
    | none => rfl
    | some y => exact congrArg some (top_comm (look_keys h1 h2))
theorem comb_same (x : Option En) : comb x x = x := by
  cases x with
  | none => rfl
  | some x => exact congrArg some (top_same x)
theorem comb_assoc (k : Int) (a b c : List En) : comb (comb (look k a) (look k b)) (look k c) = comb (look k a) (comb (look k b) (look k c)) := by
  cases h1 : look k a with
  | none => rw [none_comb, none_comb]
  | some x =>
    cases h2 : look k b with
    | none => rw [comb_none, none_comb]
    | some y =>
      cases h3 : look k c with
      | none => rw [comb_none, comb_none]
      | some z => exact congrArg some (top_assoc (look_keys h1 h2) (look_keys h2 h3))

theorem merge_comm {a b : List En} (ha : Srt a) (hb : Srt b) : mergeL a b = mergeL b a :=
  look_ext (merge_srt ha b) (merge_srt hb a) fun k => by rw [merge_look ha hb, merge_look hb ha, comb_comm]
theorem merge_assoc {a b c : List En} (ha : Srt a) (hb : Srt b) (hc : Srt c) : mergeL (mergeL a b) c = mergeL a (mergeL b c) :=
  look_ext (merge_srt (merge_srt ha b) c) (merge_srt ha _) fun k => by
    rw [merge_look (merge_srt ha b) hc, merge_look ha hb, merge_look ha (merge_srt hb c), merge_look hb hc, comb_assoc]
theorem merge_same {a : List En} (ha : Srt a) : mergeL a a = a :=
  look_ext (merge_srt ha a) ha fun k => by rw [merge_look ha ha, comb_same]
theorem merge_again {a b : List En} (ha : Srt a) (hb : Srt b) : mergeL (mergeL a b) b = mergeL a b := by
  rw [merge_assoc ha hb hb, merge_same hb]

/-! Entries of six keys. -/
structure Six (l : List En) : Prop where
  srt : Srt l
  may : ∀ e ∈ l, mayB e = true
  low : ∀ e ∈ l, e.key < 6
theorem srt_len {l : List En} (hs : Srt l) (lo hi : Int) (h : ∀ e ∈ l, lo ≤ e.key ∧ e.key < hi) : l.length ≤ (hi - lo).toNat := by
  induction l generalizing lo with
  | nil => simp
  | cons a l ih =>
    have ha := List.pairwise_cons.1 hs
    have h1 := h a List.mem_cons_self
    have := ih ha.2 (lo + 1) fun e he => by
      have := ha.1 e he
      have := h e (List.mem_cons_of_mem _ he)
      omega
    simp only [List.length_cons]
    omega
theorem may_key {e : En} (h : mayB e = true) : 0 ≤ e.key ∧ e.key ≤ 1048576 := by
  unfold mayB at h
  exact (of_decide_eq_true h).1
theorem Six.len {l : List En} (h : Six l) : l.length ≤ 6 := by
  have := srt_len h.srt 0 6 fun e he => ⟨(may_key (h.may e he)).1, h.low e he⟩
  simpa using this
theorem Six.mayL {l : List En} (h : Six l) : mayL l = true := (may_iff l).2 ⟨Nat.le_trans h.len (by decide), h.may, h.srt⟩
theorem six_nil : Six [] := ⟨List.Pairwise.nil, by simp, by simp⟩
theorem six_one {e : En} (h : mayB e = true) (h6 : e.key < 6) : Six [e] := ⟨List.pairwise_singleton _ _, by simpa using h, by simpa using h6⟩
theorem Six.merge {a b : List En} (ha : Six a) (hb : Six b) : Six (mergeL a b) :=
  ⟨merge_srt ha.srt b, fun e he => (merge_mem he).elim (ha.may e) (hb.may e), fun e he => (merge_mem he).elim (ha.low e) (hb.low e)⟩
theorem Six.mergeE {a b : List En} (ha : Six a) (hb : Six b) : mergeE a b = 0 := by
  have := (ha.merge hb).len
  unfold Plain.mergeE
  rw [if_pos ⟨ha.mayL, hb.mayL⟩, if_pos (by omega)]
theorem Six.mergeR {a b : List En} (ha : Six a) (hb : Six b) : mergeR a b = mergeL a b := by
  unfold Plain.mergeR
  rw [if_pos (ha.mergeE hb)]

/-- The entry of a note. -/
def eof (n : En) : En := ⟨n.key % 6, if n.gone then 0 else n.value % 3, n.time % 4, n.who % 3, n.gone⟩
theorem eof_may (n : En) : mayB (eof n) = true := by
  unfold mayB eof
  simp only [decide_eq_true_eq]
  have h1 := Int.emod_nonneg n.key (show (6 : Int) ≠ 0 by omega)
  have h2 := Int.emod_lt_of_pos n.key (show (0 : Int) < 6 by omega)
  have h3 := Int.emod_nonneg n.time (show (4 : Int) ≠ 0 by omega)
  have h4 := Int.emod_lt_of_pos n.time (show (0 : Int) < 4 by omega)
  have h5 := Int.emod_nonneg n.who (show (3 : Int) ≠ 0 by omega)
  have h6 := Int.emod_lt_of_pos n.who (show (0 : Int) < 3 by omega)
  have h7 := Int.emod_nonneg n.value (show (3 : Int) ≠ 0 by omega)
  have h8 := Int.emod_lt_of_pos n.value (show (0 : Int) < 3 by omega)
  cases n.gone
  · simp; omega
  · simp; omega
theorem eof_low (n : En) : (eof n).key < 6 := Int.emod_lt_of_pos n.key (show (0 : Int) < 6 by omega)
theorem eof_six (n : En) : Six [eof n] := six_one (eof_may n) (eof_low n)

/-- The entries of notes: i of them merged. -/
def eofs (l : List En) (i : Nat) : List En := ((l.take i).map eof).foldl put []
def noteN (l : List En) : Nat := min l.length 30
theorem eofs_zero (l : List En) : eofs l 0 = [] := by simp [eofs]
theorem eofs_succ (l : List En) (i : Nat) (h : i < l.length) : eofs l (i + 1) = mergeL (eofs l i) [eof (en l i)] := by
  unfold eofs
  rw [List.take_succ_eq_append_getElem h, List.map_append, List.foldl_append, en_lt h]
  rfl
theorem eofs_six (l : List En) (i : Nat) (h : i ≤ l.length) : Six (eofs l i) := by
  induction i with
  | zero => rw [eofs_zero]; exact six_nil
  | succ i ih =>
    rw [eofs_succ l i (by omega)]
    exact (ih (by omega)).merge (eof_six _)

/-! What a fold holds. -/
theorem put_has {l : List En} (hs : Srt l) (e y : En) (h : y = e ∨ ∃ x ∈ l, x.key = y.key ∧ newer y x = false) : ∃ x ∈ put l e, x.key = y.key ∧ newer y x = false := by
  have hl := put_look hs e y.key
  rcases h with rfl | ⟨x, hx, hk, hn⟩
  · rw [if_pos rfl] at hl
    cases h1 : look y.key l with
    | none =>
      rw [h1, none_comb] at hl
      exact ⟨y, (look_key hl).2, rfl, newer_irr y⟩
    | some x =>
      rw [h1] at hl
      have hl' : look y.key (put l y) = some (top x y) := hl
      refine ⟨top x y, (look_key hl').2, (look_key hl').1, ?_⟩
      unfold top
      split
      · exact newer_irr y
      · rename_i c
        simpa using c
  · have h1 : look y.key l = some x := by rw [← hk]; exact look_mem hs hx
    rw [h1] at hl
    by_cases c : e.key = y.key
    · rw [if_pos c] at hl
      have hl' : look y.key (put l e) = some (top x e) := hl
      refine ⟨top x e, (look_key hl').2, (look_key hl').1, ?_⟩
      unfold top
      split
      · rename_i d
        exact newer_not hk.symm (hk.trans c.symm) hn (newer_asymm d)
      · exact hn
    · rw [if_neg c, comb_none] at hl
      exact ⟨x, (look_key hl).2, hk, hn⟩
theorem fold_srt {a : List En} (hs : Srt a) (m : List En) : Srt (m.foldl put a) := merge_srt hs m
theorem fold_has {a : List En} (hs : Srt a) (m : List En) (y : En) (h : y ∈ m ∨ ∃ x ∈ a, x.key = y.key ∧ newer y x = false) : ∃ x ∈ m.foldl put a, x.key = y.key ∧ newer y x = false := by
  induction m generalizing a with
  | nil =>
    rcases h with h | h
    · simp at h
    · exact h
  | cons e m ih =>
    refine ih (put_srt hs e) ?_
    rcases h with h | h
    · rcases List.mem_cons.1 h with h | h
      · exact .inr (put_has hs e y (.inl h))
      · exact .inl h
    · exact .inr (put_has hs e y (.inr h))
theorem fold_mem {m : List En} {x : En} (h : x ∈ m.foldl put []) : x ∈ m := by
  rcases merge_mem (a := []) (b := m) h with h | h
  · simp at h
  · exact h
/-- The same written, in whatever order and however often: the same comes out. -/
theorem fold_ext {m n : List En} (h : ∀ x, x ∈ m ↔ x ∈ n) : m.foldl put [] = n.foldl put [] := by
  have hs : ∀ m : List En, Srt (m.foldl put []) := fun m => fold_srt List.Pairwise.nil m
  have key : ∀ (m n : List En), (∀ x, x ∈ m ↔ x ∈ n) → ∀ k x, look k (m.foldl put []) = some x → look k (n.foldl put []) = some x := by
    intro m n h k x hx
    obtain ⟨hk, hm⟩ := look_key hx
    obtain ⟨y, hy, hyk, hyn⟩ := fold_has (a := []) List.Pairwise.nil n x (.inl ((h x).1 (fold_mem hm)))
    obtain ⟨z, hz, hzk, hzn⟩ := fold_has (a := []) List.Pairwise.nil m y (.inl ((h y).2 (fold_mem hy)))
    have e1 := look_mem (hs m) hz
    rw [hzk, hyk, hk, hx] at e1
    injection e1 with e1
    subst e1
    have e2 := newer_total hyk hzn hyn
    subst e2
    rw [← hk]
    exact look_mem (hs n) hy
  refine look_ext (hs m) (hs n) fun k => ?_
  cases h1 : look k (m.foldl put []) with
  | some x => exact (key m n h k x h1).symm
  | none =>
    cases h2 : look k (n.foldl put []) with
    | none => rfl
    | some y =>
      rw [key n m (fun x => (h x).symm) k y h2] at h1
      cases h1

/-! The notes turned round. -/
/-- i notes put ahead of each other, from the turn on. -/
def turned (l : List En) (n t : Nat) : Nat → List En
  | 0 => []
  | i + 1 => en l ((i + t) % n) :: turned l n t i
theorem turned_len (l : List En) (n t i : Nat) : (turned l n t i).length = i := by
  induction i with
  | zero => rfl
  | succ i ih => simp [turned, ih]
theorem turned_mem {l : List En} {n t i : Nat} {x : En} : x ∈ turned l n t i ↔ ∃ j, j < i ∧ x = en l ((j + t) % n) := by
  induction i with
  | zero => simp [turned]
  | succ i ih =>
    simp only [turned, List.mem_cons, ih]
    constructor
    · rintro (h | ⟨j, hj, h⟩)
      · exact ⟨i, by omega, h⟩
      · exact ⟨j, by omega, h⟩
    · rintro ⟨j, hj, h⟩
      by_cases e : j = i
      · subst e; exact .inl h
      · exact .inr ⟨j, by omega, h⟩
theorem turn_onto (n t k : Nat) (hk : k < n) : ∃ j, j < n ∧ (j + t) % n = k := by
  refine ⟨(k + (n - t % n)) % n, Nat.mod_lt _ (by omega), ?_⟩
  have h1 : t % n < n := Nat.mod_lt _ (by omega)
  rw [Nat.mod_add_mod, ← Nat.add_mod_mod (k + (n - t % n)) t n]
  rw [show k + (n - t % n) + t % n = k + n by omega, Nat.add_mod_right, Nat.mod_eq_of_lt hk]
theorem turned_same (l : List En) (n t : Nat) (hn : n ≤ l.length) : ∀ x, x ∈ turned l n t n ↔ x ∈ l.take n := by
  intro x
  rw [turned_mem]
  constructor
  · rintro ⟨j, hj, rfl⟩
    have h1 : (j + t) % n < n := Nat.mod_lt _ (by omega)
    rw [en_lt (by omega)]
    exact List.mem_take_iff_getElem.2 ⟨_, by omega, rfl⟩
  · intro h
    obtain ⟨i, hi, rfl⟩ := List.mem_take_iff_getElem.1 h
    obtain ⟨j, hj, e⟩ := turn_onto n t i (by omega)
    exact ⟨j, hj, by rw [e, en_lt (by omega)]⟩
theorem turned_eofs (l : List En) (n t : Nat) (hn : n ≤ l.length) : eofs (turned l n t n) n = eofs l n := by
  unfold eofs
  have e : (turned l n t n).take n = turned l n t n := List.take_of_length_le (by rw [turned_len]; exact Nat.le_refl _)
  rw [e]
  refine fold_ext fun x => ?_
  simp only [List.mem_map]
  constructor
  · rintro ⟨y, hy, rfl⟩; exact ⟨y, (turned_same l n t hn y).1 hy, rfl⟩
  · rintro ⟨y, hy, rfl⟩; exact ⟨y, (turned_same l n t hn y).2 hy, rfl⟩
end Plain
end Go.Proofs.Ytiolkeghgodggak
