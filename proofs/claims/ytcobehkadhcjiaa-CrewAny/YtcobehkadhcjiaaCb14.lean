/-
  Goroutines among others: part 14 of what the law's own text rests on.
-/
import Derived.Test.YtcobehkadhcjiaaCb13
import Derived.Test.YtcobehkadhcjiaaRows
import Derived.WalkKit
import Derived.Deep.OwnRows
import Derived.Deep.LoopGhost
import Derived.Shelf.Abstract
import Derived.Deep.QuietTactic
import Derived.BigQuiet
import Derived.Laws.CopyRow
import Derived.Laws.CopyOwn
import Derived.Lib.AppendZerosOnto
import Derived.Lib.Overlaps
/-
  Entries, plain: what may be, what is newer, what is merged.
-/
namespace Go.Proofs.Ytcobehkadhcjiaa
namespace Plain

structure En where
  key : Int
  value : Int
  time : Int
  who : Int
  gone : Bool
  deriving DecidableEq, Inhabited

/-- a is newer than b. -/
def newer (a b : En) : Bool :=
  if a.time = b.time then (if a.who = b.who then (if a.gone = b.gone then decide (b.value < a.value) else b.gone) else decide (b.who < a.who)) else decide (b.time < a.time)
/-- An entry may be. -/
def mayB (e : En) : Bool :=
  decide ((0 ≤ e.key ∧ e.key ≤ 1048576) ∧ (0 ≤ e.value ∧ e.value ≤ 1048576) ∧ (0 ≤ e.time ∧ e.time ≤ 1048576) ∧ (0 ≤ e.who ∧ e.who < 8) ∧ (e.gone = true → e.value = 0))
/-- Keys ascend. -/
def ascB : List En → Bool
  | [] => true
  | [_] => true
  | a :: b :: l => decide (a.key < b.key) && ascB (b :: l)
/-- Entries may be. -/
def mayL (l : List En) : Bool := decide (l.length ≤ 8) && l.all mayB && ascB l
/-- The entry at i. -/
def en (l : List En) (i : Nat) : En := l.getD i default
def Srt (l : List En) : Prop := l.Pairwise (fun a b => a.key < b.key)

theorem en_lt {l : List En} {i : Nat} (h : i < l.length) : en l i = l[i] := by simp [en, h]
theorem en_mem {l : List En} {i : Nat} (h : i < l.length) : en l i ∈ l := by rw [en_lt h]; exact List.getElem_mem h

theorem asc_srt (l : List En) : ascB l = true ↔ Srt l := by
  unfold Srt
  induction l with
  | nil => simp [ascB]
  | cons a l ih =>
    cases l with
    | nil => simp [ascB]
    | cons b l =>
      simp only [ascB, Bool.and_eq_true, decide_eq_true_eq, ih, List.pairwise_cons]
      constructor
      · rintro ⟨h1, h2, h3⟩
        refine ⟨fun x hx => ?_, h2, h3⟩
        rcases List.mem_cons.1 hx with rfl | hx
        · exact h1
        · have := h2 x hx; omega
      · rintro ⟨h1, h2, h3⟩
        exact ⟨h1 b (List.mem_cons_self), h2, h3⟩
/-- Keys ascend, place by place. -/
theorem asc_at (l : List En) : ascB l = true ↔ ∀ i, i + 1 < l.length → (en l i).key < (en l (i + 1)).key := by
  induction l with
  | nil => simp [ascB]
  | cons a l ih =>
    cases l with
    | nil => simp [ascB]
    | cons b l =>
      simp only [ascB, Bool.and_eq_true, decide_eq_true_eq, ih]
      constructor
      · rintro ⟨h1, h2⟩ i hi
        cases i with
        | zero => exact h1
        | succ i => exact h2 i (by simpa using hi)
      · intro h
        exact ⟨h 0 (by simp), fun i hi => h (i + 1) (by simpa using hi)⟩

theorem may_iff (l : List En) : mayL l = true ↔ l.length ≤ 8 ∧ (∀ e ∈ l, mayB e = true) ∧ Srt l := by
  unfold mayL
  rw [Bool.and_eq_true, Bool.and_eq_true, asc_srt, decide_eq_true_eq, List.all_eq_true]
  exact ⟨fun ⟨⟨a, b⟩, c⟩ => ⟨a, b, c⟩, fun ⟨a, b, c⟩ => ⟨⟨a, b⟩, c⟩⟩

/-! What stands under a key. -/
def look (k : Int) (l : List En) : Option En := l.find? (fun e => e.key == k)
theorem look_nil (k : Int) : look k [] = none := rfl
theorem look_cons (k : Int) (a : En) (l : List En) : look k (a :: l) = if a.key = k then some a else look k l := by
  unfold look
  rw [List.find?_cons]
  by_cases h : a.key = k
  · simp [h]
  · have : (a.key == k) = false := by simpa using h
    simp [h, this]
theorem look_app (k : Int) (a b : List En) : look k (a ++ b) = (look k a).or (look k b) := by
  unfold look; exact List.find?_append
theorem look_key {k : Int} {l : List En} {e : En} (h : look k l = some e) : e.key = k ∧ e ∈ l := by
  unfold look at h
  exact ⟨by simpa using List.find?_some h, List.mem_of_find?_eq_some h⟩
theorem look_none {k : Int} {l : List En} (h : ∀ e ∈ l, e.key ≠ k) : look k l = none := by
  unfold look
  rw [List.find?_eq_none]
  intro e he
  simpa using h e he
theorem look_mem {l : List En} (hs : Srt l) {e : En} (he : e ∈ l) : look e.key l = some e := by
  induction l with
  | nil => simp at he
  | cons a l ih =>
    have hs' := List.pairwise_cons.1 hs
    rw [look_cons]
    rcases List.mem_cons.1 he with rfl | h
    · simp
    · have := hs'.1 e h
      rw [if_neg (by omega)]
      exact ih hs'.2 h
/-- Two lists whose keys ascend are one, if the same stands under each key. -/
theorem look_ext {a b : List En} (ha : Srt a) (hb : Srt b) (h : ∀ k, look k a = look k b) : a = b := by
  induction a generalizing b with
  | nil =>
    cases b with
    | nil => rfl
    | cons y b =>
      have := h y.key
      rw [look_nil, look_cons, if_pos rfl] at this
      cases this
  | cons x a ih =>
    have hx := List.pairwise_cons.1 ha
    cases b with
    | nil =>
      have := h x.key
      rw [look_nil, look_cons, if_pos rfl] at this
      cases this
    | cons y b =>
      have hy := List.pairwise_cons.1 hb
      have h1 := h x.key
      have h2 := h y.key
      rw [look_cons, if_pos rfl] at h1
      rw [look_cons (a := y), if_pos rfl] at h2
      have e : x = y := by
        rw [look_cons] at h1 h2
        by_cases c : y.key = x.key
        · rw [if_pos c] at h1; injection h1
        · rw [if_neg c] at h1
          rw [if_neg (fun d => c d.symm)] at h2
          have k1 := hy.1 _ (look_key h1.symm).2
          have k2 := hx.1 _ (look_key h2).2
          omega
      subst e
      rw [ih hx.2 hy.2]
      intro k
      have h3 := h k
      rw [look_cons, look_cons] at h3
      by_cases c : x.key = k
      · rw [look_none (fun e he => by have := hx.1 e he; omega), look_none (fun e he => by have := hy.1 e he; omega)]
      · rwa [if_neg c, if_neg c] at h3

/-! The newer one of two. -/
def top (x y : En) : En := if newer y x then y else x
def comb : Option En → Option En → Option En
  | none, y => y
  | x, none => x
  | some x, some y => some (top x y)
theorem comb_none (x : Option En) : comb x none = x := by cases x <;> rfl
theorem none_comb (x : Option En) : comb none x = x := by cases x <;> rfl

/-! The program's way: each of b is put into a. -/
/-- How many keys are less. -/
def less (k : Int) (l : List En) : Nat := l.countP (fun e => decide (e.key < k))
def put (l : List En) (e : En) : List En :=
  match l with
  | [] => [e]
  | a :: l => if e.key < a.key then e :: a :: l else if e.key = a.key then top a e :: l else a :: put l e
def mergeL (a b : List En) : List En := b.foldl put a

theorem put_mem {l : List En} {e x : En} (h : x ∈ put l e) : x = e ∨ x ∈ l := by
  induction l with
  | nil => simp [put] at h; exact .inl h
  | cons a l ih =>
    unfold put at h
    split at h
    · rcases List.mem_cons.1 h with h | h
      · exact .inl h
      · exact .inr h
    · split at h
      · rcases List.mem_cons.1 h with h | h
        · unfold top at h
          split at h
          · exact .inl h
          · exact .inr (by rw [h]; exact List.mem_cons_self)
        · exact .inr (List.mem_cons_of_mem _ h)
      · rcases List.mem_cons.1 h with h | h
        · exact .inr (by rw [h]; exact List.mem_cons_self)
        · rcases ih h with h | h
          · exact .inl h
          · exact .inr (List.mem_cons_of_mem _ h)
theorem top_key {a e : En} (h : e.key = a.key) : (top a e).key = a.key := by unfold top; split <;> simp_all
theorem put_srt {l : List En} (h : Srt l) (e : En) : Srt (put l e) := by
  induction l with
  | nil => simp [put, Srt]
  | cons a l ih =>
    have ha := List.pairwise_cons.1 h
    unfold put
    split
    · rename_i c
      refine List.pairwise_cons.2 ⟨fun x hx => ?_, h⟩
      rcases List.mem_cons.1 hx with rfl | hx
      · exact c
      · have := ha.1 x hx; omega
    · split
      · rename_i c
        exact List.pairwise_cons.2 ⟨fun x hx => by rw [top_key c]; exact ha.1 x hx, ha.2⟩
      · refine List.pairwise_cons.2 ⟨fun x hx => ?_, ih ha.2⟩
        rcases put_mem hx with rfl | hx
        · omega
        · exact ha.1 x hx
theorem put_look {l : List En} (h : Srt l) (e : En) (k : Int) : look k (put l e) = comb (look k l) (if e.key = k then some e else none) := by
  induction l with
  | nil => rw [put, look_cons, look_nil, none_comb]
  | cons a l ih =>
    have ha := List.pairwise_cons.1 h
    have hno : e.key ≤ a.key → look e.key l = none := fun hle => look_none fun x hx => by have := ha.1 x hx; omega
    unfold put
    split
    · rename_i c
      rw [look_cons]
      by_cases d : e.key = k
      · subst d
        rw [if_pos rfl, if_pos rfl, look_cons, if_neg (by omega), hno (by omega)]
        rfl
      · rw [if_neg d, if_neg d, comb_none]
    · split
      · rename_i c
        rw [look_cons, look_cons, top_key c]
        by_cases d : a.key = k
        · rw [if_pos d, if_pos d, if_pos (by omega)]; rfl
        · rw [if_neg d, if_neg d, if_neg (by omega), comb_none]
      · rw [look_cons, look_cons, ih ha.2]
        by_cases d : a.key = k
        · rw [if_pos d, if_pos d, if_neg (by omega)]; rfl
        · rw [if_neg d, if_neg d]
theorem merge_srt {a : List En} (h : Srt a) (b : List En) : Srt (mergeL a b) := by
  induction b generalizing a with
  | nil => exact h
  | cons e b ih => exact ih (put_srt h e)
theorem merge_look {a b : List En} (ha : Srt a) (hb : Srt b) (k : Int) : look k (mergeL a b) = comb (look k a) (look k b) := by
  induction b generalizing a with
  | nil => rw [look_nil, comb_none]; rfl
  | cons e b ih =>
    have he := List.pairwise_cons.1 hb
    have e1 : mergeL a (e :: b) = mergeL (put a e) b := rfl
    rw [e1, ih (put_srt ha e) he.2, put_look ha, look_cons]
    by_cases d : e.key = k
    · rw [if_pos d, if_pos d, look_none (l := b) (fun x hx => by have := he.1 x hx; omega), comb_none]
    · rw [if_neg d, if_neg d, comb_none]
theorem put_len (l : List En) (e : En) : l.length ≤ (put l e).length ∧ (put l e).length ≤ l.length + 1 := by
  induction l with
  | nil => simp [put]
  | cons a l ih =>
    unfold put
    split
    · simp
    · split
      · simp
      · simp; omega
theorem merge_len (a b : List En) : a.length ≤ (mergeL a b).length ∧ (mergeL a b).length ≤ a.length + b.length := by
  induction b generalizing a with
  | nil => simp [mergeL]
  | cons e b ih =>
    have := ih (put a e)
    have h2 := put_len a e
    have e1 : mergeL a (e :: b) = mergeL (put a e) b := rfl
    rw [e1]
    simp
    omega
theorem merge_mem {a b : List En} {x : En} (h : x ∈ mergeL a b) : x ∈ a ∨ x ∈ b := by
  induction b generalizing a with
  | nil => exact .inl h
  | cons e b ih =>
    have e1 : mergeL a (e :: b) = mergeL (put a e) b := rfl
    rw [e1] at h
    rcases ih h with h | h
    · rcases put_mem h with rfl | h
      · exact .inr List.mem_cons_self
      · exact .inl h
    · exact .inr (List.mem_cons_of_mem _ h)
theorem merge_take (a b : List En) (i : Nat) (h : i < b.length) : mergeL a (b.take (i + 1)) = put (mergeL a (b.take i)) (en b i) := by
  unfold mergeL
  rw [List.take_succ_eq_append_getElem h, List.foldl_append, en_lt h]
  rfl

/-! The place of a key. -/
theorem less_le (k : Int) (l : List En) : less k l ≤ l.length := List.countP_le_length
theorem less_cons (k : Int) (a : En) (l : List En) : less k (a :: l) = less k l + if a.key < k then 1 else 0 := by
  unfold less
  rw [List.countP_cons]
  simp
theorem less_at {k : Int} {l : List En} (hs : Srt l) {i : Nat} (hi : i < l.length) : (en l i).key < k ↔ i < less k l := by
  induction l generalizing i with
  | nil => simp at hi
  | cons a l ih =>
    have ha := List.pairwise_cons.1 hs
    rw [less_cons]
    have hz : ¬ a.key < k → less k l = 0 := by
      intro h
      unfold less
      rw [List.countP_eq_zero]
      intro x hx
      have := ha.1 x hx
      simp; omega
    cases i with
    | zero =>
      show a.key < k ↔ _
      by_cases c : a.key < k
      · simp [c]
      · simp [c, hz c]
    | succ i =>
      have e : en (a :: l) (i + 1) = en l i := rfl
      rw [e, ih ha.2 (by simpa using hi)]
      by_cases c : a.key < k
      · simp [c]
      · simp [c, hz c]
/-- Whether the key is there: at its place. -/
def hasK (k : Int) (l : List En) : Bool := decide (less k l < l.length ∧ (en l (less k l)).key = k)
theorem put_at {l : List En} (hs : Srt l) (e : En) :
    put l e = if hasK e.key l = true then (if newer e (en l (less e.key l)) = true then l.set (less e.key l) e else l) else l.take (less e.key l) ++ e :: l.drop (less e.key l) := by
  induction l with
  | nil => rfl
  | cons a l ih =>
    have ha := List.pairwise_cons.1 hs
    have hz : ¬ a.key < e.key → less e.key l = 0 := by
      intro h
      unfold less
      rw [List.countP_eq_zero]
      intro x hx
      have := ha.1 x hx
      simp; omega
    unfold hasK
    rw [less_cons]
    unfold put
    by_cases c : e.key < a.key
    · have c1 : ¬ a.key < e.key := by omega
      rw [if_pos c, hz c1, if_neg c1]
      have : ¬ (0 + 0 < (a :: l).length ∧ (en (a :: l) (0 + 0)).key = e.key) := by
        rintro ⟨_, h⟩
        have : (en (a :: l) (0 + 0)).key = a.key := rfl
        omega
      simp only [this, decide_false, Bool.false_eq_true, if_false]
      rfl
    · rw [if_neg c]
      by_cases d : e.key = a.key
      · have c1 : ¬ a.key < e.key := by omega
        rw [if_pos d, hz c1, if_neg c1]
        have : (0 + 0 < (a :: l).length ∧ (en (a :: l) (0 + 0)).key = e.key) := ⟨by simp, d.symm⟩
        simp only [this, and_self, decide_true, if_true]
        have e1 : en (a :: l) (0 + 0) = a := rfl
        rw [e1]
        unfold top
        by_cases f : newer e a = true
        · rw [if_pos f, if_pos f]; rfl
        · rw [if_neg f, if_neg f]
      · have c1 : a.key < e.key := by omega
        rw [if_neg d, if_pos c1, ih ha.2]
        have e1 : en (a :: l) (less e.key l + 1) = en l (less e.key l) := rfl
        unfold hasK
        rw [e1]
        simp only [List.length_cons, Nat.add_lt_add_iff_right]
        split
        · split
          · rfl
          · rfl
        · rfl

/-! The document's way: both from the left. -/
def mrg : List En → List En → List En
  | [], b => b
  | a, [] => a
  | x :: a, y :: b => if x.key < y.key then x :: mrg a (y :: b) else if y.key < x.key then y :: mrg (x :: a) b else top x y :: mrg a b
  termination_by a b => a.length + b.length
theorem mrg_mem {a b : List En} {x : En} (h : x ∈ mrg a b) : x ∈ a ∨ x ∈ b := by
  fun_induction mrg a b with
  | case1 b => exact .inr h
  | case2 a _ => exact .inl h
  | case3 y a z b c ih =>
    rcases List.mem_cons.1 h with rfl | h
    · exact .inl List.mem_cons_self
    · rcases ih h with h | h
      · exact .inl (List.mem_cons_of_mem _ h)
      · exact .inr h
  | case4 y a z b c d ih =>
    rcases List.mem_cons.1 h with rfl | h
    · exact .inr List.mem_cons_self
    · rcases ih h with h | h
      · exact .inl h
      · exact .inr (List.mem_cons_of_mem _ h)
  | case5 y a z b c d ih =>
    rcases List.mem_cons.1 h with rfl | h
    · unfold top
      split
      · exact .inr List.mem_cons_self
      · exact .inl List.mem_cons_self
    · rcases ih h with h | h
      · exact .inl (List.mem_cons_of_mem _ h)
      · exact .inr (List.mem_cons_of_mem _ h)
theorem mrg_srt {a b : List En} (ha : Srt a) (hb : Srt b) : Srt (mrg a b) := by
  fun_induction mrg a b with
  | case1 b => exact hb
  | case2 a _ => exact ha
  | case3 y a z b c ih =>
    have h1 := List.pairwise_cons.1 ha
    have h2 := List.pairwise_cons.1 hb
    refine List.pairwise_cons.2 ⟨fun x hx => ?_, ih h1.2 hb⟩
    rcases mrg_mem hx with h | h
    · exact h1.1 x h
    · rcases List.mem_cons.1 h with rfl | h
      · exact c
      · have := h2.1 x h; omega
  | case4 y a z b c d ih =>
    have h1 := List.pairwise_cons.1 ha
    have h2 := List.pairwise_cons.1 hb
    refine List.pairwise_cons.2 ⟨fun x hx => ?_, ih ha h2.2⟩
    rcases mrg_mem hx with h | h
    · rcases List.mem_cons.1 h with rfl | h
      · exact d
      · have := h1.1 x h; omega
    · exact h2.1 x h
  | case5 y a z b c d ih =>
    have h1 := List.pairwise_cons.1 ha
    have h2 := List.pairwise_cons.1 hb
    have hk : (top y z).key = y.key := top_key (by omega)
    refine List.pairwise_cons.2 ⟨fun x hx => ?_, ih h1.2 h2.2⟩
    rw [hk]
    rcases mrg_mem hx with h | h
    · exact h1.1 x h
    · have := h2.1 x h; omega
theorem mrg_look {a b : List En} (ha : Srt a) (hb : Srt b) (k : Int) : look k (mrg a b) = comb (look k a) (look k b) := by
  fun_induction mrg a b with
  | case1 b => rw [look_nil, none_comb]
  | case2 a _ => rw [look_nil, comb_none]
  | case3 y a z b c ih =>
    have h1 := List.pairwise_cons.1 ha
    have h2 := List.pairwise_cons.1 hb
    rw [look_cons, ih h1.2 hb, look_cons k y a]
    by_cases e : y.key = k
    · rw [if_pos e, if_pos e, look_none (l := z :: b) (fun x hx => ?_), comb_none]
      rcases List.mem_cons.1 hx with rfl | h
      · omega
      · have := h2.1 x h; omega
    · rw [if_neg e, if_neg e]
  | case4 y a z b c d ih =>
    have h1 := List.pairwise_cons.1 ha
    have h2 := List.pairwise_cons.1 hb
    rw [look_cons, ih ha h2.2, look_cons k z b]
    by_cases e : z.key = k
    · rw [if_pos e, if_pos e, look_none (l := y :: a) (fun x hx => ?_), none_comb]
      rcases List.mem_cons.1 hx with rfl | h
      · omega
      · have := h1.1 x h; omega
    · rw [if_neg e, if_neg e]
  | case5 y a z b c d ih =>
    have h1 := List.pairwise_cons.1 ha
    have h2 := List.pairwise_cons.1 hb
    have hk : (top y z).key = y.key := top_key (by omega)
    rw [look_cons, look_cons, look_cons, ih h1.2 h2.2, hk]
    by_cases e : y.key = k
    · rw [if_pos e, if_pos e, if_pos (by omega)]; rfl
    · rw [if_neg e, if_neg e, if_neg (by omega)]
theorem mrg_merge {a b : List En} (ha : Srt a) (hb : Srt b) : mrg a b = mergeL a b :=
  look_ext (mrg_srt ha hb) (merge_srt ha b) fun k => (mrg_look ha hb k).trans (merge_look ha hb k).symm

/-! What the calls come to. -/
def mergeE (a b : List En) : Nat := if mayL a = true ∧ mayL b = true then (if (mergeL a b).length ≤ 8 then 0 else 8) else 4
def mergeR (a b : List En) : List En := if mergeE a b = 0 then mergeL a b else []
def liveE (l : List En) : Nat := if mayL l = true then 0 else 4
def liveR (l : List En) : List En := if mayL l = true then l.filter (fun e => !e.gone) else []
end Plain
end Go.Proofs.Ytcobehkadhcjiaa

/-
  Entries in memory: five cells each.
-/
namespace Go.Proofs.Ytcobehkadhcjiaa
open Go.RowKit

def encE (e : Plain.En) : List Value := [.int .i64 e.key, .int .i64 e.value, .int .i64 e.time, .int .i64 e.who, .bool e.gone]
def evals (l : List Plain.En) : List Value := l.flatMap encE
theorem evals_cons (a : Plain.En) (l : List Plain.En) : evals (a :: l) = encE a ++ evals l := rfl
theorem evals_app (a b : List Plain.En) : evals (a ++ b) = evals a ++ evals b := by simp [evals]
theorem encE_len (e : Plain.En) : (encE e).length = 5 := rfl
theorem evals_len (l : List Plain.En) : (evals l).length = l.length * 5 := by
  induction l with
  | nil => rfl
  | cons a l ih => rw [evals_cons, List.length_append, encE_len, ih, List.length_cons]; omega
theorem evals_split (l : List Plain.En) (i : Nat) (h : i ≤ l.length) : (evals l).take (i * 5) = evals (l.take i) ∧ (evals l).drop (i * 5) = evals (l.drop i) := by
  have e : evals l = evals (l.take i) ++ evals (l.drop i) := by rw [← evals_app, List.take_append_drop]
  have hl : (evals (l.take i)).length = i * 5 := by rw [evals_len, List.length_take, Nat.min_eq_left h]
  rw [e]
  exact ⟨by rw [List.take_append_of_le_length (by omega), List.take_of_length_le (by omega)], by rw [List.drop_append_of_le_length (by omega), List.drop_of_length_le (by omega), List.nil_append]⟩
theorem evals_at (l : List Plain.En) (j k : Nat) (hj : j < l.length) (hk : k < 5) : (evals l)[j * 5 + k]? = (encE (Plain.en l j))[k]? := by
  induction l generalizing j with
  | nil => simp at hj
  | cons a l ih =>
    rw [evals_cons]
    cases j with
    | zero =>
      rw [List.getElem?_append_left (by rw [encE_len]; omega), Nat.zero_mul, Nat.zero_add]
      rfl
    | succ j =>
      rw [List.getElem?_append_right (by rw [encE_len]; omega), encE_len, show (j + 1) * 5 + k - 5 = j * 5 + k by omega, ih j (by simpa using hj)]
      rfl
theorem encE_one (e : Plain.En) : ∀ u ∈ encE e, u.oneCell' = true := by
  intro u hu
  simp only [encE, List.mem_cons, List.not_mem_nil, or_false] at hu
  rcases hu with rfl | rfl | rfl | rfl | rfl <;> rfl
theorem evals_one (l : List Plain.En) : ∀ u ∈ evals l, u.oneCell' = true := by
  intro u hu
  obtain ⟨e, _, h⟩ := List.mem_flatMap.1 hu
  exact encE_one e u h

/-- The five cells of an entry. -/
structure CellN (w : World) (b o : Nat) (e : Plain.En) : Prop where
  c0 : w.cell? ⟨b, o, none⟩ = some (.int .i64 e.key)
  c1 : w.cell? ⟨b, o + 1, none⟩ = some (.int .i64 e.value)
  c2 : w.cell? ⟨b, o + 2, none⟩ = some (.int .i64 e.time)
  c3 : w.cell? ⟨b, o + 3, none⟩ = some (.int .i64 e.who)
  c4 : w.cell? ⟨b, o + 4, none⟩ = some (.bool e.gone)
theorem CellN.below {w w' : World} {b o B : Nat} {e : Plain.En} (h : CellN w b o e) (hb : Below B w w') (hlt : b < B) : CellN w' b o e :=
  ⟨(hb.cell (p := ⟨b, o, none⟩) hlt).trans h.c0, (hb.cell (p := ⟨b, o + 1, none⟩) hlt).trans h.c1, (hb.cell (p := ⟨b, o + 2, none⟩) hlt).trans h.c2, (hb.cell (p := ⟨b, o + 3, none⟩) hlt).trans h.c3, (hb.cell (p := ⟨b, o + 4, none⟩) hlt).trans h.c4⟩
theorem CellN.lt {w : World} {b o : Nat} {e : Plain.En} (h : CellN w b o e) : b < w.heap.size := World.block_lt_of_cell? (w := w) (h := h.c0)
/-- The cells of the entries l, from ⟨b, off⟩ on. -/
def CellsN (w : World) (b off : Nat) (l : List Plain.En) : Prop := ∀ j, j < l.length → CellN w b (off + j * 5) (Plain.en l j)
/-- The slice v holds the entries l. -/
def SegN (w : World) (v : Value) (l : List Plain.En) : Prop :=
  (l = [] ∧ ∃ p cap, v = .slice p 0 cap) ∨ ∃ b off cap, v = .slice (some ⟨b, off, none⟩) l.length cap ∧ l.length ≤ cap ∧ CellsN w b off l
theorem CellsN.below {w w' : World} {b off B : Nat} {l : List Plain.En} (h : CellsN w b off l) (hb : Below B w w') (hlt : b < B) : CellsN w' b off l := fun j hj => (h j hj).below hb hlt
theorem SegN.below {w w' : World} {v : Value} {l : List Plain.En} {B : Nat} (h : SegN w v l) (hb : Below B w w') (hv : Lies B v) : SegN w' v l := by
  rcases h with ⟨rfl, p1, c1, rfl⟩ | ⟨b1, o1, c1, rfl, hc1, g1⟩
  · exact .inl ⟨rfl, p1, c1, rfl⟩
  · by_cases h0 : 0 < l.length
    · exact .inr ⟨b1, o1, c1, rfl, hc1, g1.below hb (hv ⟨b1, o1, none⟩ _ _ rfl h0)⟩
    · exact .inr ⟨b1, o1, c1, rfl, hc1, fun j hj => by omega⟩
theorem SegN.nil (w : World) : SegN w (.slice none 0 0) [] := .inl ⟨rfl, none, 0, rfl⟩
/-- What a slice that holds entries looks like. -/
theorem SegN.form {w : World} {v : Value} {l : List Plain.En} (h : SegN w v l) : ∃ p cap, v = .slice p l.length cap ∧ (0 < l.length → ∃ b off, p = some ⟨b, off, none⟩ ∧ l.length ≤ cap ∧ CellsN w b off l) := by
  rcases h with ⟨rfl, p1, c1, rfl⟩ | ⟨b1, o1, c1, rfl, hc1, g1⟩
  · exact ⟨p1, c1, rfl, fun h => by simp at h⟩
  · exact ⟨_, c1, rfl, fun _ => ⟨b1, o1, rfl, hc1, g1⟩⟩
theorem SegN.some {w : World} {v : Value} {l : List Plain.En} (h : SegN w v l) (hl : 0 < l.length) : ∃ b off cap, v = .slice (some ⟨b, off, none⟩) l.length cap ∧ l.length ≤ cap ∧ CellsN w b off l := by
  rcases h with ⟨rfl, _⟩ | h
  · simp at hl
  · exact h
/-- The cells, one behind the other. -/
theorem CellsN.vals {w : World} {b off : Nat} {l : List Plain.En} (h : CellsN w b off l) : ∀ j u, (evals l)[j]? = some u → w.cell? ⟨b, off + j, none⟩ = some u := by
  intro j u hj
  have hlt : j < l.length * 5 := by
    rw [← evals_len]
    exact (List.getElem?_eq_some_iff.1 hj).1
  have e : j = j / 5 * 5 + j % 5 := by omega
  have hk : j % 5 < 5 := Nat.mod_lt _ (by omega)
  have h1 : j / 5 < l.length := by omega
  have c := h (j / 5) h1
  rw [e, evals_at l _ _ h1 hk] at hj
  rw [e, ← Nat.add_assoc]
  generalize j % 5 = k at hj hk
  generalize off + j / 5 * 5 = o at c
  match k, hk, hj with
  | 0, _, hj => injection hj with hj; subst hj; exact c.c0
  | 1, _, hj => injection hj with hj; subst hj; exact c.c1
  | 2, _, hj => injection hj with hj; subst hj; exact c.c2
  | 3, _, hj => injection hj with hj; subst hj; exact c.c3
  | 4, _, hj => injection hj with hj; subst hj; exact c.c4
theorem CellsN.of_vals {w : World} {b off : Nat} {l : List Plain.En} (h : ∀ j u, (evals l)[j]? = some u → w.cell? ⟨b, off + j, none⟩ = some u) : CellsN w b off l := by
  intro j hj
  have g : ∀ k u, k < 5 → (encE (Plain.en l j))[k]? = some u → w.cell? ⟨b, off + (j * 5 + k), none⟩ = some u := fun k u hk hu => h _ u (by rw [evals_at l j k hj hk]; exact hu)
  refine ⟨?_, ?_, ?_, ?_, ?_⟩
  · have := g 0 _ (by omega) rfl; rwa [Nat.add_zero] at this
  · have := g 1 _ (by omega) rfl; rwa [← Nat.add_assoc] at this
  · have := g 2 _ (by omega) rfl; rwa [← Nat.add_assoc] at this
  · have := g 3 _ (by omega) rfl; rwa [← Nat.add_assoc] at this
  · have := g 4 _ (by omega) rfl; rwa [← Nat.add_assoc] at this

theorem add_zero_at (g k : Nat) : (⟨g, 0, none⟩ : Addr).add k = ⟨g, k, none⟩ := by
  by_cases h : k = 0
  · subst h; simp [Addr.add]
  · simp [Addr.add, h]
theorem addr_add (g o k : Nat) : (⟨g, o, none⟩ : Addr).add k = ⟨g, o + k, none⟩ := by
  by_cases h : k = 0
  · subst h; simp [Addr.add]
  · simp [Addr.add, h]

/-- Entries in a row of the call's own (T: their type). -/
def OwnN (w : World) (B T : Nat) (v : Value) (l : List Plain.En) : Prop := w.ownsRow B T 5 v l.length (evals l)
theorem OwnN.cells {w : World} {B T g n c : Nat} {l : List Plain.En} (h : OwnN w B T (.slice (some ⟨g, 0, none⟩) n c) l) : CellsN w g 0 l :=
  CellsN.of_vals fun j u hj => by
    have h2 : w.ownsRow B T 5 (.slice (some ⟨g, 0, none⟩) n c) l.length (evals l) := h
    rcases h2.2 with ⟨e, _⟩ | ⟨g', cap', cur, e, hg, hb, h1, _, h3, h4⟩
    · cases e
    · injection e with e1 e2 e3
      injection e1 with e1
      injection e1 with e1 _ _
      subst e1
      rw [← h4, List.getElem?_take] at hj
      split at hj
      · rw [Nat.zero_add]
        simp only [World.cell?, hb]
        rw [Array.getElem?_toList] at hj
        rw [hj]
        rfl
      · cases hj
theorem OwnN.seg {w : World} {B T : Nat} {v : Value} {l : List Plain.En} (h : OwnN w B T v l) : SegN w v l ∧ Lies w.heap.size v := by
  have h2 : w.ownsRow B T 5 v l.length (evals l) := h
  rcases h2.2 with ⟨rfl, h0⟩ | ⟨g, cap, cur, rfl, _, hg, hc, _⟩
  · exact ⟨.inl ⟨List.length_eq_zero_iff.1 h0, _, _, rfl⟩, lies_nil _ _ _⟩
  · exact ⟨.inr ⟨g, 0, cap, rfl, hc, h.cells⟩, lies_at (Array.getElem?_eq_some_iff.1 hg).1⟩
/-- The row, opened. -/
theorem OwnN.row {w : World} {B T : Nat} {v : Value} {l : List Plain.En} (h : OwnN w B T v l) (hl : 0 < l.length) :
    ∃ g cap cur, v = .slice (some ⟨g, 0, none⟩) l.length cap ∧ B ≤ g ∧ w.heap[g]? = some (.cells cur T (0, 0)) ∧ l.length ≤ cap ∧ cap ≤ maxLen ∧ cur.size = cap * 5 ∧ cur.toList.take (l.length * 5) = evals l := by
  have h2 : w.ownsRow B T 5 v l.length (evals l) := h
  rcases h2.2 with ⟨rfl, h0⟩ | h3
  · omega
  · exact h3
theorem OwnN.mk {w : World} {B T g cap : Nat} {cur : Array Value} {l : List Plain.En} (hB : B ≤ g) (hg : w.heap[g]? = some (.cells cur T (0, 0))) (hc : l.length ≤ cap) (hm : cap ≤ maxLen) (hs : cur.size = cap * 5) (ht : cur.toList.take (l.length * 5) = evals l) :
    OwnN w B T (.slice (some ⟨g, 0, none⟩) l.length cap) l := ⟨evals_len l, .inr ⟨g, cap, cur, rfl, hB, hg, hc, hm, hs, ht⟩⟩
theorem OwnN.nil (w : World) (B T : Nat) : OwnN w B T (.slice none 0 0) [] := ⟨rfl, .inl ⟨rfl, rfl⟩⟩
/-- All blocks stay as they were: so does the row. -/
theorem OwnN.grow {w w' : World} {B T : Nat} {v : Value} {l : List Plain.En} (h : OwnN w B T v l) (g : Below w.heap.size w w') : OwnN w' B T v l := by
  refine ⟨h.1, ?_⟩
  rcases h.2 with h0 | ⟨b, cap, cur, e, hB, hb, h3⟩
  · exact .inl h0
  · exact .inr ⟨b, cap, cur, e, hB, (g.block b (Array.getElem?_eq_some_iff.1 hb).1).trans hb, h3⟩
theorem OwnN.base {w : World} {B C T : Nat} {v : Value} {l : List Plain.En} (h : OwnN w B T v l) (hc : C ≤ B) : OwnN w C T v l := by
  refine ⟨h.1, ?_⟩
  rcases h.2 with h0 | ⟨b, cap, cur, e, hB, h3⟩
  · exact .inl h0
  · exact .inr ⟨b, cap, cur, e, by omega, h3⟩
end Go.Proofs.Ytcobehkadhcjiaa

/-
  Contracts of reg.Newer and of the document's answer.
-/
namespace Go.Proofs.Ytcobehkadhcjiaa
open Go.RowKit

/-- An entry as a value. -/
abbrev aggE (e : Plain.En) : Value := .agg #[.int .i64 e.key, .int .i64 e.value, .int .i64 e.time, .int .i64 e.who, .bool e.gone]
/-- An entry in a box. -/
abbrev boxE (e : Plain.En) : Obj := .cells #[.int .i64 e.key, .int .i64 e.value, .int .i64 e.time, .int .i64 e.who, .bool e.gone] 41

set_option maxHeartbeats 1000000 in
theorem newer_c (a b : Plain.En) (w : World) :
    Calls Try.prog 73 #[aggE a, aggE b] w fun e w' => e = .returned (.bool (Plain.newer a b)) ∧ w' = (w.alloc (boxE a)).alloc (boxE b) := by
  obtain ⟨ak, av, ati, aw, ag⟩ := a
  obtain ⟨bk, bv, bt, bw, bg⟩ := b
  by_cases h1 : ati = bt
  · subst h1
    by_cases h2 : aw = bw
    · subst h2
      have e1 : Plain.newer ⟨ak, av, ati, aw, ag⟩ ⟨bk, bv, ati, aw, bg⟩ = if ag = bg then decide (bv < av) else bg := by simp [Plain.newer]
      rw [e1]
      cases ag <;> cases bg
      all_goals
        go_enter Try.func73, Try.ntmps73
        go_wp2
        go_ret
        exact ⟨rfl, rfl⟩
    · have e1 : Plain.newer ⟨ak, av, ati, aw, ag⟩ ⟨bk, bv, ati, bw, bg⟩ = decide (bw < aw) := by simp [Plain.newer, h2]
      rw [e1]
      have b1 : (aw != bw) = true := bne_iff_ne.2 h2
      go_enter Try.func73, Try.ntmps73
      go_wp2
      go_ret
      exact ⟨rfl, rfl⟩
  · have e1 : Plain.newer ⟨ak, av, ati, aw, ag⟩ ⟨bk, bv, bt, bw, bg⟩ = decide (bt < ati) := by simp [Plain.newer, h1]
    rw [e1]
    have b1 : (ati != bt) = true := bne_iff_ne.2 h1
    go_enter Try.func73, Try.ntmps73
    go_wp2
    go_ret
    exact ⟨rfl, rfl⟩

end Go.Proofs.Ytcobehkadhcjiaa

/-
  Contracts of reg.mayBe and of the literals that May and Live hand on.
-/
namespace Go.Proofs.Ytcobehkadhcjiaa
open Go.RowKit

set_option maxHeartbeats 2000000 in
theorem mayBe_c (e : Plain.En) (w : World) :
    Calls Try.prog 63 #[aggE e] w fun r w' => r = .returned (.bool (Plain.mayB e)) ∧ w' = w.alloc (boxE e) := by
  obtain ⟨k, v, t, o, g⟩ := e
  by_cases hk : k < 0 ∨ 1048576 < k
  · have e1 : Plain.mayB ⟨k, v, t, o, g⟩ = false := by unfold Plain.mayB; simp only [decide_eq_false_iff_not]; omega
    rw [e1]
    rcases hk with hk | hk
    all_goals
      go_enter Try.func63, Try.ntmps63
      go_wp2
      go_ret
      exact ⟨rfl, rfl⟩
  have hk1 : 0 ≤ k := by omega
  have hk2 : k ≤ 1048576 := by omega
  by_cases hv : v < 0 ∨ 1048576 < v
  · have e1 : Plain.mayB ⟨k, v, t, o, g⟩ = false := by unfold Plain.mayB; simp only [decide_eq_false_iff_not]; omega
    rw [e1]
    clear hk
    rcases hv with hv | hv
    all_goals
      go_enter Try.func63, Try.ntmps63
      go_wp2
      go_ret
      exact ⟨rfl, rfl⟩
  have hv1 : 0 ≤ v := by omega
  have hv2 : v ≤ 1048576 := by omega
  by_cases ht : t < 0 ∨ 1048576 < t
  · have e1 : Plain.mayB ⟨k, v, t, o, g⟩ = false := by unfold Plain.mayB; simp only [decide_eq_false_iff_not]; omega
    rw [e1]
    clear hk hv
    rcases ht with ht | ht
    all_goals
      go_enter Try.func63, Try.ntmps63
      go_wp2
      go_ret
      exact ⟨rfl, rfl⟩
  have ht1 : 0 ≤ t := by omega
  have ht2 : t ≤ 1048576 := by omega
  by_cases ho : o < 0 ∨ 8 ≤ o
  · have e1 : Plain.mayB ⟨k, v, t, o, g⟩ = false := by unfold Plain.mayB; simp only [decide_eq_false_iff_not]; omega
    rw [e1]
    clear hk hv ht
    rcases ho with ho | ho
    all_goals
      go_enter Try.func63, Try.ntmps63
      go_wp2
      go_ret
      exact ⟨rfl, rfl⟩
  have ho1 : 0 ≤ o := by omega
  have ho2 : o < 8 := by omega
  clear hk hv ht ho
  cases g with
  | false =>
    have e1 : Plain.mayB ⟨k, v, t, o, false⟩ = true := by unfold Plain.mayB; simp; omega
    rw [e1]
    go_enter Try.func63, Try.ntmps63
    go_wp2
    go_ret
    exact ⟨rfl, rfl⟩
  | true =>
    by_cases h0 : v = 0
    · subst h0
      have e1 : Plain.mayB ⟨k, 0, t, o, true⟩ = true := by unfold Plain.mayB; simp; omega
      rw [e1]
      go_enter Try.func63, Try.ntmps63
      go_wp2
      go_ret
      exact ⟨rfl, rfl⟩
    · have e1 : Plain.mayB ⟨k, v, t, o, true⟩ = false := by unfold Plain.mayB; simp only [decide_eq_false_iff_not]; intro h; exact h0 (h.2.2.2.2 (by simp))
      rw [e1]
      have b0 : (v == 0) = false := beq_eq_false_iff_ne.2 h0
      go_enter Try.func63, Try.ntmps63
      go_wp2
      go_ret
      exact ⟨rfl, rfl⟩

/-- The literal of May. -/
theorem may1_c (e : Plain.En) (w : World) :
    Calls Try.prog 62 #[aggE e] w fun r w' => r = .returned (.bool (!Plain.mayB e)) ∧ w' = (w.alloc (boxE e)).alloc (boxE e) := by
  have K := fun W => mayBe_c e W
  generalize Plain.mayB e = r at K ⊢
  go_enter Try.func62, Try.ntmps62
  go_wp2_with (go_at_call 63; refine (K _).mono ?_; rintro r w' ⟨rfl, rfl⟩)
  go_ret
  exact ⟨rfl, rfl⟩
end Go.Proofs.Ytcobehkadhcjiaa

/-
  Contracts of slices.IndexFunc and slices.ContainsFunc at entries.
-/
namespace Go.Proofs.Ytcobehkadhcjiaa
open Go.RowKit Go.Shelf

namespace Plain
/-- The first place at which p holds, or -1. -/
def idx (p : En → Bool) (l : List En) : Int := if l.findIdx p < l.length then (l.findIdx p : Nat) else -1
theorem idx_hit {p : En → Bool} {l : List En} {k : Nat} (hk : k < l.length) (h : p (en l k) = true) (ha : ∀ j, j < k → p (en l j) = false) : idx p l = k := by
  have e : l.findIdx p = k := by
    rw [List.findIdx_eq hk]
    rw [en_lt hk] at h
    refine ⟨h, fun j hj => ?_⟩
    have := ha j hj
    rw [en_lt (by omega)] at this
    exact this
  unfold idx
  rw [e, if_pos hk]
theorem idx_miss {p : En → Bool} {l : List En} (ha : ∀ j, j < l.length → p (en l j) = false) : idx p l = -1 := by
  have e : l.findIdx p = l.length := List.findIdx_eq_length.2 fun x hx => by
    obtain ⟨j, hj, rfl⟩ := List.getElem_of_mem hx
    have := ha j hj
    rw [en_lt hj] at this
    exact this
  unfold idx
  rw [e, if_neg (by omega)]
theorem idx_any (p : En → Bool) (l : List En) : decide (0 ≤ idx p l) = l.any p := by
  unfold idx
  by_cases h : l.findIdx p < l.length
  · rw [if_pos h, List.any_eq_true.2 ⟨l[l.findIdx p], List.getElem_mem h, List.findIdx_getElem⟩]
    simp
  · rw [if_neg h]
    have : l.any p = false := by
      rw [List.any_eq_false]
      intro x hx hp
      exact h (List.findIdx_lt_length_of_exists ⟨x, hx, hp⟩)
    rw [this]
    rfl
end Plain

/-- What is asked of a function of entries that is handed on. -/
def PredN (g : Nat) (p : Plain.En → Bool) (w : World) : Prop :=
  ∀ (W : World) (x : Plain.En), Below w.heap.size w W → Calls Try.prog g #[aggE x] W fun e w' => e = .returned (.bool (p x)) ∧ Below w.heap.size w w'

set_option maxHeartbeats 2000000 in
theorem index_c (p : Plain.En → Bool) (g : Nat) (eg : ∀ args w, (callFunc g args).run Try.prog w = .ok (.enter g args) w) (b off n c : Nat) (l : List Plain.En) (w : World)
    (hp : PredN g p w) (hn : l.length = n) (hbig : n ≤ 9223372036854775807) (hb : 0 < n → b < w.heap.size) (hc : CellsN w b off l) :
    Calls Try.prog 80 #[.slice (some ⟨b, off, none⟩) n c, .func (.func g) #[] #[]] w fun e w' => e = .returned (.int .i64 (Plain.idx p l)) ∧ Below w.heap.size w w' := by
  have HC := hid hc
  have HP := hid hp
  clear hc hp
  go_enter Try.func80, Try.ntmps80
  go_wp2
  go_loopg [5, 8] n (fun gg _ s8 wr => ∃ kk : Nat, kk ≤ n ∧ n - kk ≤ gg ∧ s8 = .int .i64 kk ∧ Aside (Below w.heap.size w wr) ∧ Aside (∀ j, j < kk → p (Plain.en l j) = false))
  case atStart => exact ⟨0, Nat.zero_le _, by omega, rfl, Below.refl _ w, fun j hj => absurd hj (Nat.not_lt_zero _)⟩
  case round =>
    obtain ⟨kk, hkk, hg, rfl, BW, A⟩ := hrel
    by_cases hlt : kk < n
    · have hltz : (kk : Int) < (n : Int) := by omega
      obtain ⟨c0, c1, c2, c3, c4⟩ := (HC.out kk (by omega)).below BW.out (hb (by omega))
      have hcall := HP.out wr (Plain.en l kk) BW.out
      have B : Aside (∀ x, Plain.en l kk = x → x = Plain.en l kk) := fun x h => h.symm
      generalize hy : Plain.en l kk = y at c0 c1 c2 c3 c4 hcall
      have HY : Aside (Plain.en l kk = y) := hy
      clear hy B
      cases hq : p y with
      | true =>
        rw [hq] at hcall
        go_wp2_with (go_at_fn g; refine hcall.mono ?_; rintro e w' ⟨rfl, hb'⟩)
        go_ret
        refine ⟨?_, hb'⟩
        rw [Plain.idx_hit (by omega) (by rw [HY.out]; exact hq) A.out]
        rfl
      | false =>
        rw [hq] at hcall
        go_wp2_with (go_at_fn g; refine hcall.mono ?_; rintro e w' ⟨rfl, hb'⟩)
        go_roundg (n - (kk + 1))
        case measure => omega
        case rel =>
          refine ⟨kk + 1, by omega, by omega, by go_num, hb', (show Aside _ from fun j hj => ?_)⟩
          by_cases e : j = kk
          · subst e
            rw [HY.out]; exact hq
          · exact A.out j (by omega)
    · have hltz : ¬ (kk : Int) < (n : Int) := by omega
      have : kk = n := by omega
      subst this
      go_wp2
      go_ret
      refine ⟨?_, BW.out⟩
      rw [Plain.idx_miss (fun j hj => A.out j (by omega))]
      rfl

set_option maxHeartbeats 1000000 in
theorem index_nil (p : Option Addr) (c : Nat) (f : Value) (w : World) :
    Calls Try.prog 80 #[.slice p 0 c, f] w fun e w' => e = .returned (.int .i64 (-1)) ∧ w' = w := by
  go_enter Try.func80, Try.ntmps80
  go_wp2
  refine wp_loop_rounds 1 ?_
  rw [rounds_succ]
  go_wp2
  go_ret
  exact ⟨rfl, rfl⟩

/-- IndexFunc at whatever slice of entries. -/
theorem index_any (p : Plain.En → Bool) (g : Nat) (eg : ∀ args w, (callFunc g args).run Try.prog w = .ok (.enter g args) w) (v : Value) (l : List Plain.En) (w : World)
    (hp : PredN g p w) (hbig : l.length ≤ 9223372036854775807) (hs : SegN w v l) (hl : Lies w.heap.size v) :
    Calls Try.prog 80 #[v, .func (.func g) #[] #[]] w fun e w' => e = .returned (.int .i64 (Plain.idx p l)) ∧ Below w.heap.size w w' := by
  rcases hs with ⟨rfl, q, c, rfl⟩ | ⟨b, off, c, rfl, _, hc⟩
  · exact (index_nil q c _ w).mono fun e w' ⟨h1, h2⟩ => ⟨by rw [h1]; rfl, by rw [h2]; exact Below.refl _ _⟩
  · exact index_c p g eg b off l.length c l w hp rfl hbig (fun h => hl ⟨b, off, none⟩ _ _ rfl h) hc

theorem contains_any (p : Plain.En → Bool) (g : Nat) (eg : ∀ args w, (callFunc g args).run Try.prog w = .ok (.enter g args) w) (v : Value) (l : List Plain.En) (w : World)
    (hp : PredN g p w) (hbig : l.length ≤ 9223372036854775807) (hs : SegN w v l) (hl : Lies w.heap.size v) :
    Calls Try.prog 61 #[v, .func (.func g) #[] #[]] w fun e w' => e = .returned (.bool (l.any p)) ∧ Below w.heap.size w w' := by
  rw [← Plain.idx_any]
  have K := index_any p g eg v l w hp hbig hs hl
  generalize Plain.idx p l = r at K ⊢
  go_enter Try.func61, Try.ntmps61
  go_wp2_with (go_at_call 80; refine K.mono ?_; rintro e w' ⟨rfl, hb⟩)
  go_ret
  exact ⟨rfl, hb⟩
end Go.Proofs.Ytcobehkadhcjiaa

/-
  Contracts of reg.keysAscend and reg.May.
-/
namespace Go.Proofs.Ytcobehkadhcjiaa
open Go.RowKit Go.Shelf

theorem below_drewN {B : Nat} {w w' : World} (h : Below B w w') (q : Nat) : Below B w (w'.drewN q) := h.trans ⟨rfl, rfl, rfl, Nat.le_refl _, fun _ _ => rfl⟩
theorem drewN_addN (w : World) (a b : Nat) : (w.drewN a).drewN b = w.drewN (a + b) := World.drewN_drewN w a b

namespace Plain
theorem asc_no {l : List En} {k : Nat} (hk : k + 1 < l.length) (h : ¬ (en l k).key < (en l (k + 1)).key) : ascB l = false := by
  cases e : ascB l with
  | false => rfl
  | true => exact absurd ((asc_at l).1 e k hk) h
end Plain

set_option maxHeartbeats 2000000 in
theorem asc_some (l : List Plain.En) (b off c : Nat) (hl : l.length ≤ 9223372036854775807) (h0 : 0 < l.length) (w : World) (hc : CellsN w b off l) :
    Calls Try.prog 64 #[.slice (some ⟨b, off, none⟩) l.length c] w fun e w' => e = .returned (.bool (Plain.ascB l)) ∧ ∃ q, w' = w.drewN q := by
  have HC := hid hc
  clear hc
  go_enter Try.func64, Try.ntmps64
  go_wp2
  go_loopw [3] (fun i wx => ∃ k q : Nat, k < l.length ∧ i = .int .i64 (k + 1 : Nat) ∧ wx = w.drewN q ∧ ∀ j, j < k → (Plain.en l j).key < (Plain.en l (j + 1)).key) (fun i _ => l.length + 1 - (intOf i).toNat)
  case atStart => exact ⟨0, 0, h0, rfl, rfl, fun j hj => by omega⟩
  case round =>
    obtain ⟨k, q, hk, rfl, hw, ha⟩ := hrel
    have HW := hid hw
    have HA := hid ha
    clear hw ha
    by_cases hlt : k + 1 < l.length
    · have c1 : wr.cell? ⟨b, off + k * 5, none⟩ = some (.int .i64 (Plain.en l k).key) := by rw [HW.out]; simpa using (HC.out k (by omega)).c0
      have c2 : wr.cell? ⟨b, off + (k + 1) * 5, none⟩ = some (.int .i64 (Plain.en l (k + 1)).key) := by rw [HW.out]; simpa using (HC.out (k + 1) hlt).c0
      have hlt' : ((k : Int) + 1) < (l.length : Int) := by omega
      have hk' : (k : Int) < (l.length : Int) := by omega
      have hn := Plain.asc_no hlt
      generalize hx : (Plain.en l k).key = x at c1 hn
      generalize hy : (Plain.en l (k + 1)).key = y at c2 hn
      have HX := hid hx
      have HY := hid hy
      clear hx hy
      have e1 : (((k + 1 : Nat) : Int)) = (k : Int) + 1 := by omega
      rw [e1]
      clear e1
      by_cases hxy : x < y
      · clear hn
        have HXY := hid hxy
        go_wp2
        go_quiet (fail)
        go_wp2
        go_roundw
        case rel =>
          refine ⟨k + 1, _, hlt, by go_num, by rw [HW.out, drewN_addN], fun j hj => ?_⟩
          by_cases e : j = k
          · subst e; rw [HX.out, HY.out]; exact HXY.out
          · exact HA.out j (by omega)
        case measure => simp [intOf]; omega
      · have hn' := hid (hn hxy)
        clear hn
        have hyx : y ≤ x := by omega
        go_wp2
        go_quiet (fail)
        go_wp2
        go_ret
        exact ⟨by rw [hn'.out]; rfl, _, by rw [HW.out, drewN_addN]⟩
    · have ek : k + 1 = l.length := by omega
      have HE := hid ((Plain.asc_at l).2 fun j hj => HA.out j (by omega))
      have hge : ¬ (((k + 1 : Nat) : Int)) < (l.length : Int) := by omega
      go_wp2
      go_ret
      exact ⟨by rw [HE.out]; rfl, _, HW.out⟩

set_option maxHeartbeats 1000000 in
theorem asc_nil (p : Option Addr) (c : Nat) (w : World) :
    Calls Try.prog 64 #[.slice p 0 c] w fun e w' => e = .returned (.bool true) ∧ w' = w := by
  go_enter Try.func64, Try.ntmps64
  go_wp2
  refine wp_loop_rounds 1 ?_
  rw [rounds_succ]
  go_wp2
  go_ret
  exact ⟨rfl, rfl⟩

theorem asc_any (v : Value) (l : List Plain.En) (hl : l.length ≤ 9223372036854775807) (w : World) (hs : SegN w v l) :
    Calls Try.prog 64 #[v] w fun e w' => e = .returned (.bool (Plain.ascB l)) ∧ Below w.heap.size w w' := by
  rcases hs with ⟨rfl, q, c, rfl⟩ | ⟨b, off, c, rfl, _, hc⟩
  · exact (asc_nil q c w).mono fun e w' ⟨h1, h2⟩ => ⟨by rw [h1]; rfl, by rw [h2]; exact Below.refl _ _⟩
  · by_cases h0 : 0 < l.length
    · exact (asc_some l b off c hl h0 w hc).mono fun e w' ⟨h1, q, h2⟩ => ⟨h1, by rw [h2]; exact below_drewN (Below.refl _ _) q⟩
    · obtain rfl : l = [] := List.length_eq_zero_iff.1 (by omega)
      exact (asc_nil _ c w).mono fun e w' ⟨h1, h2⟩ => ⟨by rw [h1]; rfl, by rw [h2]; exact Below.refl _ _⟩

theorem pred_may (w : World) : PredN 62 (fun e => !Plain.mayB e) w := fun W x hb =>
  (may1_c x W).mono fun e w' ⟨h1, h2⟩ => ⟨h1, by rw [h2]; exact (hb.alloc hb.size _).alloc (by simpa using Nat.le_succ_of_le hb.size) _⟩

namespace Plain
theorem may_long {l : List En} (h : 8 < l.length) : mayL l = false := by unfold mayL; rw [decide_eq_false (by omega)]; rfl
theorem may_bad {l : List En} (h : l.any (fun e => !mayB e) = true) : mayL l = false := by
  unfold mayL
  have : l.all mayB = false := by
    rw [List.all_eq_false]
    obtain ⟨x, hx, hp⟩ := List.any_eq_true.1 h
    exact ⟨x, hx, by simpa using hp⟩
  rw [this]
  simp
theorem may_asc {l : List En} (h8 : l.length ≤ 8) (h : l.any (fun e => !mayB e) = false) : mayL l = ascB l := by
  unfold mayL
  have : l.all mayB = true := by
    rw [List.all_eq_true]
    intro x hx
    have := (List.any_eq_false.1 h) x hx
    simpa using this
  rw [this, decide_eq_true h8]
  simp
end Plain

set_option maxHeartbeats 1000000 in
theorem may_any (v : Value) (l : List Plain.En) (hl : l.length ≤ 9223372036854775807) (w : World) (hs : SegN w v l) (hy : Lies w.heap.size v) :
    Calls Try.prog 29 #[v] w fun e w' => e = .returned (.bool (Plain.mayL l)) ∧ Below w.heap.size w w' := by
  obtain ⟨p, c, rfl, _⟩ := hs.form
  by_cases h8 : l.length ≤ 8
  · have h8' : (l.length : Int) ≤ 8 := by omega
    have eg : ∀ args w, (callFunc 62 args).run Try.prog w = .ok (.enter 62 args) w := enters_of Try.func62 (by kernel_rfl) rfl
    have K := contains_any (fun e => !Plain.mayB e) 62 eg _ l w (pred_may w) hl hs hy
    have HS := hid hs
    have HY := hid hy
    clear hs hy
    cases hq : l.any (fun e => !Plain.mayB e) with
    | true =>
      rw [hq] at K
      rw [Plain.may_bad hq]
      clear hq
      go_enter Try.func29, Try.ntmps29
      go_wp2_with (go_at_call 61; refine K.mono ?_; rintro e w1 ⟨rfl, b1⟩)
      go_ret
      exact ⟨rfl, b1⟩
    | false =>
      rw [hq] at K
      rw [Plain.may_asc h8 hq]
      clear hq
      have K2 := fun w1 b1 => asc_any _ l hl w1 (HS.out.below (B := w.heap.size) (w' := w1) b1 HY.out)
      generalize Plain.ascB l = r at K2 ⊢
      go_enter Try.func29, Try.ntmps29
      go_wp2_with (first
        | (go_at_call 61; refine K.mono ?_; rintro e w1 ⟨rfl, b1⟩)
        | (go_at_call 64; refine (K2 _ (by assumption)).mono ?_; rintro e w2 ⟨rfl, b2⟩))
      go_ret
      exact ⟨rfl, b1.trans (b2.mono b1.size)⟩
  · have h8' : ¬ (l.length : Int) ≤ 8 := by omega
    rw [Plain.may_long (by omega)]
    clear hs
    go_enter Try.func29, Try.ntmps29
    go_wp2
    go_ret
    exact ⟨rfl, Below.refl _ _⟩
end Go.Proofs.Ytcobehkadhcjiaa

/-
  copy and clear at elements of several cells, in a row whose block is known.
-/
namespace Go.Proofs.Ytcobehkadhcjiaa
open Go.RowKit

theorem run_copy_rowK {P : Program} (w : World) (dT sT ty elem : TypeId) (g o dLen dCap : Nat) (a : Addr) (sLen sCap size : Nat) (cur : Array Value) (t : TypeId) (cs : List Value)
    (hu : P.underlying dT = some (.slice elem)) (hs : (P.info? elem).map (·.size) = some size)
    (hg : w.heap[g]? = some (.cells cur t (0, 0))) (hn : cs.length = Nat.min sLen dLen * size)
    (hsrc : ∀ j v, cs[j]? = some v → w.cell? (a.add j) = some v) (hfit : o + cs.length ≤ cur.size) (h1 : ∀ v ∈ cs, v.oneCell' = true) :
    (Builtin.copy_ #[dT, sT] ty #[.slice (some ⟨g, o, none⟩) dLen dCap, .slice (some a) sLen sCap]).run P w =
      .ok (goInt (Nat.min sLen dLen)) (w.setRow g (cur.toList.take o ++ cs ++ cur.toList.drop (o + cs.length)).toArray) := by
  have hl := run_loadCells_list (P := P) w a cs hsrc
  have hst := run_storeCells_at P g o t cs 0 cur w hg (by simpa using hfit) h1
  cases hq : P.info? elem with
  | none => simp [hq] at hs
  | some i =>
    have hi : i.size = size := by simpa [hq] using hs
    simp only [Nat.add_zero] at hst
    simp [Builtin.copy_, run_underlying hu, Builtin.lenOf, Builtin.firstCells, sizeOf, typeInfo, hq, hi, ← hn, hl, hst]

theorem run_clear_rowK {P : Program} (w : World) (dT elem : TypeId) (g o n cap size : Nat) (z : Value) (cur : Array Value) (t : TypeId)
    (hu : P.underlying dT = some (.slice elem)) (hz : ∀ w, (zeroValue elem).run P w = .ok z w) (hzs : z.cells.size = size) (h1 : ∀ v ∈ z.cells.toList, v.oneCell' = true) (hg : w.heap[g]? = some (.cells cur t (0, 0))) (h0 : 0 < n) (hfit : o + n * size ≤ cur.size) :
    ∃ zs : List Value, zs.length = n * size ∧ ∀ ty, (Builtin.clear_ #[dT] ty #[.slice (some ⟨g, o, none⟩) n cap]).run P w = .ok (.tuple #[]) (w.setRow g (cur.toList.take o ++ zs ++ cur.toList.drop (o + zs.length)).toArray) := by
  have hl : (Builtin.zeroCells z.cells n).toList.length = n * size := by simp [Builtin.zeroCells, hzs]
  have ho : ∀ v ∈ (Builtin.zeroCells z.cells n).toList, v.oneCell' = true := by
    intro v hv
    simp [Builtin.zeroCells] at hv
    obtain ⟨k, hk, rfl⟩ := hv
    have hp : 0 < z.cells.size := Nat.pos_of_ne_zero fun e => by rw [e, Nat.mul_zero] at hk; omega
    have hm : k % z.cells.size < z.cells.size := Nat.mod_lt _ hp
    rw [getElem!_pos z.cells _ hm]
    exact h1 _ (by simp)
  refine ⟨(Builtin.zeroCells z.cells n).toList, hl, fun ty => ?_⟩
  have hst := run_storeCells_at P g o t (Builtin.zeroCells z.cells n).toList 0 cur w hg (by rw [hl]; omega) ho
  simp only [Nat.add_zero] at hst
  have hn : n ≠ 0 := by omega
  cases n with
  | zero => omega
  | succ n => simp [Builtin.clear_, run_underlying hu, hz, hst]
end Go.Proofs.Ytcobehkadhcjiaa
