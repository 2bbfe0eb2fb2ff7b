/-
  Entries, plain: what may be, what is newer, what is merged.
-/
import Derived.Test.YtiolkeghgodggakRows
import Derived.WalkKit
namespace Go.Proofs.Ytiolkeghgodggak
namespace Plain

structure En where
  key : Int
  value : Int
  time : Int
  who : Int
  gone : Bool
  deriving DecidableEq, Inhabited

/-- a is newer than b. -/
def newer (a b : En) : Bool :=
  if a.time = b.time then (if a.who = b.who then (if a.gone = b.gone then decide (b.value < a.value) else b.gone) else decide (b.who < a.who)) else decide (b.time < a.time)
/-- An entry may be. -/
def mayB (e : En) : Bool :=
  decide ((0 ≤ e.key ∧ e.key ≤ 1048576) ∧ (0 ≤ e.value ∧ e.value ≤ 1048576) ∧ (0 ≤ e.time ∧ e.time ≤ 1048576) ∧ (0 ≤ e.who ∧ e.who < 8) ∧ (e.gone = true → e.value = 0))
/-- Keys ascend. -/
def ascB : List En → Bool
  | [] => true
  | [_] => true
  | a :: b :: l => decide (a.key < b.key) && ascB (b :: l)
/-- Entries may be. -/
def mayL (l : List En) : Bool := decide (l.length ≤ 8) && l.all mayB && ascB l
/-- The entry at i. -/
def en (l : List En) (i : Nat) : En := l.getD i default
def Srt (l : List En) : Prop := l.Pairwise (fun a b => a.key < b.key)

theorem en_lt {l : List En} {i : Nat} (h : i < l.length) : en l i = l[i] := by simp [en, h]
theorem en_mem {l : List En} {i : Nat} (h : i < l.length) : en l i ∈ l := by rw [en_lt h]; exact List.getElem_mem h

theorem asc_srt (l : List En) : ascB l = true ↔ Srt l := by
  unfold Srt
  induction l with
  | nil => simp [ascB]
  | cons a l ih =>
    cases l with
    | nil => simp [ascB]
    | cons b l =>
      simp only [ascB, Bool.and_eq_true, decide_eq_true_eq, ih, List.pairwise_cons]
      constructor
      · rintro ⟨h1, h2, h3⟩
        refine ⟨fun x hx => ?_, h2, h3⟩
        rcases List.mem_cons.1 hx with rfl | hx
        · exact h1
        · have := h2 x hx; omega
      · rintro ⟨h1, h2, h3⟩
        exact ⟨h1 b (List.mem_cons_self), h2, h3⟩
/-- Keys ascend, place by place. -/
theorem asc_at (l : List En) : ascB l = true ↔ ∀ i, i + 1 < l.length → (en l i).key < (en l (i + 1)).key := by
  induction l with
  | nil => simp [ascB]
  | cons a l ih =>
    cases l with
    | nil => simp [ascB]
    | cons b l =>
      simp only [ascB, Bool.and_eq_true, decide_eq_true_eq, ih]
      constructor
      · rintro ⟨h1, h2⟩ i hi
        cases i with
        | zero => exact h1
        | succ i => exact h2 i (by simpa using hi)
      · intro h
        exact ⟨h 0 (by simp), fun i hi => h (i + 1) (by simpa using hi)⟩

theorem may_iff (l : List En) : mayL l = true ↔ l.length ≤ 8 ∧ (∀ e ∈ l, mayB e = true) ∧ Srt l := by
  unfold mayL
  rw [Bool.and_eq_true, Bool.and_eq_true, asc_srt, decide_eq_true_eq, List.all_eq_true]
  exact ⟨fun ⟨⟨a, b⟩, c⟩ => ⟨a, b, c⟩, fun ⟨a, b, c⟩ => ⟨⟨a, b⟩, c⟩⟩

/-! What stands under a key. -/
def look (k : Int) (l : List En) : Option En := l.find? (fun e => e.key == k)
theorem look_nil (k : Int) : look k [] = none := rfl
theorem look_cons (k : Int) (a : En) (l : List En) : look k (a :: l) = if a.key = k then some a else look k l := by
  unfold look
  rw [List.find?_cons]
  by_cases h : a.key = k
  · simp [h]
  · have : (a.key == k) = false := by simpa using h
    simp [h, this]
theorem look_app (k : Int) (a b : List En) : look k (a ++ b) = (look k a).or (look k b) := by
  unfold look; exact List.find?_append
theorem look_key {k : Int} {l : List En} {e : En} (h : look k l = some e) : e.key = k ∧ e ∈ l := by
  unfold look at h
  exact ⟨by simpa using List.find?_some h, List.mem_of_find?_eq_some h⟩
theorem look_none {k : Int} {l : List En} (h : ∀ e ∈ l, e.key ≠ k) : look k l = none := by
  unfold look
  rw [List.find?_eq_none]
  intro e he
  simpa using h e he
theorem look_mem {l : List En} (hs : Srt l) {e : En} (he : e ∈ l) : look e.key l = some e := by
  induction l with
  | nil => simp at he
  | cons a l ih =>
    have hs' := List.pairwise_cons.1 hs
    rw [look_cons]
    rcases List.mem_cons.1 he with rfl | h
    · simp
    · have := hs'.1 e h
      rw [if_neg (by omega)]
      exact ih hs'.2 h
/-- Two lists whose keys ascend are one, if the same stands under each key. -/
theorem look_ext {a b : List En} (ha : Srt a) (hb : Srt b) (h : ∀ k, look k a = look k b) : a = b := by
  induction a generalizing b with
  | nil =>
    cases b with
    | nil => rfl
    | cons y b =>
      have := h y.key
      rw [look_nil, look_cons, if_pos rfl] at this
      cases this
  | cons x a ih =>
    have hx := List.pairwise_cons.1 ha
    cases b with
    | nil =>
      have := h x.key
      rw [look_nil, look_cons, if_pos rfl] at this
      cases this
    | cons y b =>
      have hy := List.pairwise_cons.1 hb
      have h1 := h x.key
      have h2 := h y.key
      rw [look_cons, if_pos rfl] at h1
      rw [look_cons (a := y), if_pos rfl] at h2
      have e : x = y := by
        rw [look_cons] at h1 h2
        by_cases c : y.key = x.key
        · rw [if_pos c] at h1; injection h1
        · rw [if_neg c] at h1
          rw [if_neg (fun d => c d.symm)] at h2
          have k1 := hy.1 _ (look_key h1.symm).2
          have k2 := hx.1 _ (look_key h2).2
          omega
      subst e
      rw [ih hx.2 hy.2]
      intro k
      have h3 := h k
      rw [look_cons, look_cons] at h3
      by_cases c : x.key = k
      · rw [look_none (fun e he => by have := hx.1 e he; omega), look_none (fun e he => by have := hy.1 e he; omega)]
      · rwa [if_neg c, if_neg c] at h3

/-! The newer one of two. -/
def top (x y : En) : En := if newer y x then y else x
def comb : Option En → Option En → Option En
  | none, y => y
  | x, none => x
  | some x, some y => some (top x y)
theorem comb_none (x : Option En) : comb x none = x := by cases x <;> rfl
theorem none_comb (x : Option En) : comb none x = x := by cases x <;> rfl

/-! The program's way: each of b is put into a. -/
/-- How many keys are less. -/
def less (k : Int) (l : List En) : Nat := l.countP (fun e => decide (e.key < k))
def put (l : List En) (e : En) : List En :=
  match l with
  | [] => [e]
  | a :: l => if e.key < a.key then e :: a :: l else if e.key = a.key then top a e :: l else a :: put l e
def mergeL (a b : List En) : List En := b.foldl put a

theorem put_mem {l : List En} {e x : En} (h : x ∈ put l e) : x = e ∨ x ∈ l := by
  induction l with
  | nil => simp [put] at h; exact .inl h
  | cons a l ih =>
    unfold put at h
    split at h
    · rcases List.mem_cons.1 h with h | h
      · exact .inl h
      · exact .inr h
    · split at h
      · rcases List.mem_cons.1 h with h | h
        · unfold top at h
          split at h
          · exact .inl h
          · exact .inr (by rw [h]; exact List.mem_cons_self)
        · exact .inr (List.mem_cons_of_mem _ h)
      · rcases List.mem_cons.1 h with h | h
        · exact .inr (by rw [h]; exact List.mem_cons_self)
        · rcases ih h with h | h
          · exact .inl h
          · exact .inr (List.mem_cons_of_mem _ h)
theorem top_key {a e : En} (h : e.key = a.key) : (top a e).key = a.key := by unfold top; split <;> simp_all
theorem put_srt {l : List En} (h : Srt l) (e : En) : Srt (put l e) := by
  induction l with
  | nil => simp [put, Srt]
  | cons a l ih =>
    have ha := List.pairwise_cons.1 h
    unfold put
    split
    · rename_i c
      refine List.pairwise_cons.2 ⟨fun x hx => ?_, h⟩
      rcases List.mem_cons.1 hx with rfl | hx
      · exact c
      · have := ha.1 x hx; omega
    · split
      · rename_i c
        exact List.pairwise_cons.2 ⟨fun x hx => by rw [top_key c]; exact ha.1 x hx, ha.2⟩
      · refine List.pairwise_cons.2 ⟨fun x hx => ?_, ih ha.2⟩
        rcases put_mem hx with rfl | hx
        · omega
        · exact ha.1 x hx
theorem put_look {l : List En} (h : Srt l) (e : En) (k : Int) : look k (put l e) = comb (look k l) (if e.key = k then some e else none) := by
  induction l with
  | nil => rw [put, look_cons, look_nil, none_comb]
  | cons a l ih =>
    have ha := List.pairwise_cons.1 h
    have hno : e.key ≤ a.key → look e.key l = none := fun hle => look_none fun x hx => by have := ha.1 x hx; omega
    unfold put
    split
    · rename_i c
      rw [look_cons]
      by_cases d : e.key = k
      · subst d
        rw [if_pos rfl, if_pos rfl, look_cons, if_neg (by omega), hno (by omega)]
        rfl
      · rw [if_neg d, if_neg d, comb_none]
    · split
      · rename_i c
        rw [look_cons, look_cons, top_key c]
        by_cases d : a.key = k
        · rw [if_pos d, if_pos d, if_pos (by omega)]; rfl
        · rw [if_neg d, if_neg d, if_neg (by omega), comb_none]
      · rw [look_cons, look_cons, ih ha.2]
        by_cases d : a.key = k
        · rw [if_pos d, if_pos d, if_neg (by omega)]; rfl
        · rw [if_neg d, if_neg d]
theorem merge_srt {a : List En} (h : Srt a) (b : List En) : Srt (mergeL a b) := by
  induction b generalizing a with
  | nil => exact h
  | cons e b ih => exact ih (put_srt h e)
theorem merge_look {a b : List En} (ha : Srt a) (hb : Srt b) (k : Int) : look k (mergeL a b) = comb (look k a) (look k b) := by
  induction b generalizing a with
  | nil => rw [look_nil, comb_none]; rfl
  | cons e b ih =>
    have he := List.pairwise_cons.1 hb
    have e1 : mergeL a (e :: b) = mergeL (put a e) b := rfl
    rw [e1, ih (put_srt ha e) he.2, put_look ha, look_cons]
    by_cases d : e.key = k
    · rw [if_pos d, if_pos d, look_none (l := b) (fun x hx => by have := he.1 x hx; omega), comb_none]
    · rw [if_neg d, if_neg d, comb_none]
theorem put_len (l : List En) (e : En) : l.length ≤ (put l e).length ∧ (put l e).length ≤ l.length + 1 := by
  induction l with
  | nil => simp [put]
  | cons a l ih =>
    unfold put
    split
    · simp
    · split
      · simp
      · simp; omega
theorem merge_len (a b : List En) : a.length ≤ (mergeL a b).length ∧ (mergeL a b).length ≤ a.length + b.length := by
  induction b generalizing a with
  | nil => simp [mergeL]
  | cons e b ih =>
    have := ih (put a e)
    have h2 := put_len a e
    have e1 : mergeL a (e :: b) = mergeL (put a e) b := rfl
    rw [e1]
    simp
    omega
theorem merge_mem {a b : List En} {x : En} (h : x ∈ mergeL a b) : x ∈ a ∨ x ∈ b := by
  induction b generalizing a with
  | nil => exact .inl h
  | cons e b ih =>
    have e1 : mergeL a (e :: b) = mergeL (put a e) b := rfl
    rw [e1] at h
    rcases ih h with h | h
    · rcases put_mem h with rfl | h
      · exact .inr List.mem_cons_self
      · exact .inl h
    · exact .inr (List.mem_cons_of_mem _ h)
theorem merge_take (a b : List En) (i : Nat) (h : i < b.length) : mergeL a (b.take (i + 1)) = put (mergeL a (b.take i)) (en b i) := by
  unfold mergeL
  rw [List.take_succ_eq_append_getElem h, List.foldl_append, en_lt h]
  rfl

/-! The place of a key. -/
theorem less_le (k : Int) (l : List En) : less k l ≤ l.length := List.countP_le_length
theorem less_cons (k : Int) (a : En) (l : List En) : less k (a :: l) = less k l + if a.key < k then 1 else 0 := by
  unfold less
  rw [List.countP_cons]
  simp
theorem less_at {k : Int} {l : List En} (hs : Srt l) {i : Nat} (hi : i < l.length) : (en l i).key < k ↔ i < less k l := by
  induction l generalizing i with
  | nil => simp at hi
  | cons a l ih =>
    have ha := List.pairwise_cons.1 hs
    rw [less_cons]
    have hz : ¬ a.key < k → less k l = 0 := by
      intro h
      unfold less
      rw [List.countP_eq_zero]
      intro x hx
      have := ha.1 x hx
      simp; omega
    cases i with
    | zero =>
      show a.key < k ↔ _
      by_cases c : a.key < k
      · simp [c]
      · simp [c, hz c]
    | succ i =>
      have e : en (a :: l) (i + 1) = en l i := rfl
      rw [e, ih ha.2 (by simpa using hi)]
      by_cases c : a.key < k
      · simp [c]
      · simp [c, hz c]
/-- Whether the key is there: at its place. -/
def hasK (k : Int) (l : List En) : Bool := decide (less k l < l.length ∧ (en l (less k l)).key = k)
theorem put_at {l : List En} (hs : Srt l) (e : En) :
    put l e = if hasK e.key l = true then (if newer e (en l (less e.key l)) = true then l.set (less e.key l) e else l) else l.take (less e.key l) ++ e :: l.drop (less e.key l) := by
  induction l with
  | nil => rfl
  | cons a l ih =>
    have ha := List.pairwise_cons.1 hs
    have hz : ¬ a.key < e.key → less e.key l = 0 := by
      intro h
      unfold less
      rw [List.countP_eq_zero]
      intro x hx
      have := ha.1 x hx
      simp; omega
    unfold hasK
    rw [less_cons]
    unfold put
    by_cases c : e.key < a.key
    · have c1 : ¬ a.key < e.key := by omega
      rw [if_pos c, hz c1, if_neg c1]
      have : ¬ (0 + 0 < (a :: l).length ∧ (en (a :: l) (0 + 0)).key = e.key) := by
        rintro ⟨_, h⟩
        have : (en (a :: l) (0 + 0)).key = a.key := rfl
        omega
      simp only [this, decide_false, Bool.false_eq_true, if_false]
      rfl
    · rw [if_neg c]
      by_cases d : e.key = a.key
      · have c1 : ¬ a.key < e.key := by omega
        rw [if_pos d, hz c1, if_neg c1]
        have : (0 + 0 < (a :: l).length ∧ (en (a :: l) (0 + 0)).key = e.key) := ⟨by simp, d.symm⟩
        simp only [this, and_self, decide_true, if_true]
        have e1 : en (a :: l) (0 + 0) = a := rfl
        rw [e1]
        unfold top
        by_cases f : newer e a = true
        · rw [if_pos f, if_pos f]; rfl
        · rw [if_neg f, if_neg f]
      · have c1 : a.key < e.key := by omega
        rw [if_neg d, if_pos c1, ih ha.2]
        have e1 : en (a :: l) (less e.key l + 1) = en l (less e.key l) := rfl
        unfold hasK
        rw [e1]
        simp only [List.length_cons, Nat.add_lt_add_iff_right]
        split
        · split
          · rfl
          · rfl
        · rfl

/-! The document's way: both from the left. -/
def mrg : List En → List En → List En
  | [], b => b
  | a, [] => a
  | x :: a, y :: b => if x.key < y.key then x :: mrg a (y :: b) else if y.key < x.key then y :: mrg (x :: a) b else top x y :: mrg a b
  termination_by a b => a.length + b.length
theorem mrg_mem {a b : List En} {x : En} (h : x ∈ mrg a b) : x ∈ a ∨ x ∈ b := by
  fun_induction mrg a b with
  | case1 b => exact .inr h
  | case2 a _ => exact .inl h
  | case3 y a z b c ih =>
    rcases List.mem_cons.1 h with rfl | h
    · exact .inl List.mem_cons_self
    · rcases ih h with h | h
      · exact .inl (List.mem_cons_of_mem _ h)
      · exact .inr h
  | case4 y a z b c d ih =>
    rcases List.mem_cons.1 h with rfl | h
    · exact .inr List.mem_cons_self
    · rcases ih h with h | h
      · exact .inl h
      · exact .inr (List.mem_cons_of_mem _ h)
  | case5 y a z b c d ih =>
    rcases List.mem_cons.1 h with rfl | h
    · unfold top
      split
      · exact .inr List.mem_cons_self
      · exact .inl List.mem_cons_self
    · rcases ih h with h | h
      · exact .inl (List.mem_cons_of_mem _ h)
      · exact .inr (List.mem_cons_of_mem _ h)
theorem mrg_srt {a b : List En} (ha : Srt a) (hb : Srt b) : Srt (mrg a b) := by
  fun_induction mrg a b with
  | case1 b => exact hb
  | case2 a _ => exact ha
  | case3 y a z b c ih =>
    have h1 := List.pairwise_cons.1 ha
    have h2 := List.pairwise_cons.1 hb
    refine List.pairwise_cons.2 ⟨fun x hx => ?_, ih h1.2 hb⟩
    rcases mrg_mem hx with h | h
    · exact h1.1 x h
    · rcases List.mem_cons.1 h with rfl | h
      · exact c
      · have := h2.1 x h; omega
  | case4 y a z b c d ih =>
    have h1 := List.pairwise_cons.1 ha
    have h2 := List.pairwise_cons.1 hb
    refine List.pairwise_cons.2 ⟨fun x hx => ?_, ih ha h2.2⟩
    rcases mrg_mem hx with h | h
    · rcases List.mem_cons.1 h with rfl | h
      · exact d
      · have := h1.1 x h; omega
    · exact h2.1 x h
  | case5 y a z b c d ih =>
    have h1 := List.pairwise_cons.1 ha
    have h2 := List.pairwise_cons.1 hb
    have hk : (top y z).key = y.key := top_key (by omega)
    refine List.pairwise_cons.2 ⟨fun x hx => ?_, ih h1.2 h2.2⟩
    rw [hk]
    rcases mrg_mem hx with h | h
    · exact h1.1 x h
    · have := h2.1 x h; omega
theorem mrg_look {a b : List En} (ha : Srt a) (hb : Srt b) (k : Int) : look k (mrg a b) = comb (look k a) (look k b) := by
  fun_induction mrg a b with
  | case1 b => rw [look_nil, none_comb]
  | case2 a _ => rw [look_nil, comb_none]
  | case3 y a z b c ih =>
    have h1 := List.pairwise_cons.1 ha
    have h2 := List.pairwise_cons.1 hb
    rw [look_cons, ih h1.2 hb, look_cons k y a]
    by_cases e : y.key = k
    · rw [if_pos e, if_pos e, look_none (l := z :: b) (fun x hx => ?_), comb_none]
      rcases List.mem_cons.1 hx with rfl | h
      · omega
      · have := h2.1 x h; omega
    · rw [if_neg e, if_neg e]
  | case4 y a z b c d ih =>
    have h1 := List.pairwise_cons.1 ha
    have h2 := List.pairwise_cons.1 hb
    rw [look_cons, ih ha h2.2, look_cons k z b]
    by_cases e : z.key = k
    · rw [if_pos e, if_pos e, look_none (l := y :: a) (fun x hx => ?_), none_comb]
      rcases List.mem_cons.1 hx with rfl | h
      · omega
      · have := h1.1 x h; omega
    · rw [if_neg e, if_neg e]
  | case5 y a z b c d ih =>
    have h1 := List.pairwise_cons.1 ha
    have h2 := List.pairwise_cons.1 hb
    have hk : (top y z).key = y.key := top_key (by omega)
    rw [look_cons, look_cons, look_cons, ih h1.2 h2.2, hk]
    by_cases e : y.key = k
    · rw [if_pos e, if_pos e, if_pos (by omega)]; rfl
    · rw [if_neg e, if_neg e, if_neg (by omega)]
theorem mrg_merge {a b : List En} (ha : Srt a) (hb : Srt b) : mrg a b = mergeL a b :=
  look_ext (mrg_srt ha hb) (merge_srt ha b) fun k => (mrg_look ha hb k).trans (merge_look ha hb k).symm

/-! What the calls come to. -/
def mergeE (a b : List En) : Nat := if mayL a = true ∧ mayL b = true then (if (mergeL a b).length ≤ 8 then 0 else 8) else 4
def mergeR (a b : List En) : List En := if mergeE a b = 0 then mergeL a b else []
def liveE (l : List En) : Nat := if mayL l = true then 0 else 4
def liveR (l : List En) : List En := if mayL l = true then l.filter (fun e => !e.gone) else []
end Plain
end Go.Proofs.Ytiolkeghgodggak
