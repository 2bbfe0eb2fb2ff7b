/-
  Goroutines among others: part 20 of what the law's own text rests on.
-/
import Derived.Test.YtcobehkadhcjiaaCb19
/-
  crew: many merges, plain: pair by pair or one by one.
-/
namespace Go.Proofs.Ytcobehkadhcjiaa
namespace Plain

/-- All of them merged. -/
def uni (ls : List (List En)) : List En := ls.foldr mergeL []
theorem uni_nil : uni [] = [] := rfl
theorem uni_cons (x : List En) (xs : List (List En)) : uni (x :: xs) = mergeL x (uni xs) := rfl
theorem merge_nil (a : List En) : mergeL a [] = a := rfl
theorem may_srt {l : List En} (h : mayL l = true) : Srt l := ((may_iff l).1 h).2.2
theorem may_len {l : List En} (h : mayL l = true) : l.length ≤ 8 := ((may_iff l).1 h).1
theorem uni_srt {ls : List (List En)} (h : ∀ l ∈ ls, mayL l = true) : Srt (uni ls) := by
  cases ls with
  | nil => exact List.Pairwise.nil
  | cons x xs => exact merge_srt (may_srt (h x (by simp))) _
theorem nil_merge {a : List En} (h : Srt a) : mergeL [] a = a := by rw [merge_comm List.Pairwise.nil h]; rfl
theorem uni_one (x : List En) : uni [x] = x := rfl
theorem may_merge {a b : List En} (ha : mayL a = true) (hb : mayL b = true) (h : (mergeL a b).length ≤ 8) : mayL (mergeL a b) = true :=
  (may_iff _).2 ⟨h, fun e he => (merge_mem he).elim (((may_iff a).1 ha).2.1 e) (((may_iff b).1 hb).2.1 e), merge_srt (may_srt ha) b⟩
theorem mergeE_eq {a b : List En} (ha : mayL a = true) (hb : mayL b = true) : mergeE a b = if (mergeL a b).length ≤ 8 then 0 else 8 := by
  unfold mergeE
  rw [if_pos ⟨ha, hb⟩]
theorem len_right {a b : List En} (ha : Srt a) (hb : Srt b) : b.length ≤ (mergeL a b).length := by
  rw [merge_comm ha hb]
  exact (merge_len b a).1

/-- One by one. -/
def crewF : List En → List (List En) → List En × Nat
  | out, [] => (out, 0)
  | out, x :: xs => if mergeE out x = 0 then crewF (mergeR out x) xs else ([], mergeE out x)
/-- What comes of it, in whatever order. -/
def crewA (l : List En) : List En × Nat := if l.length ≤ 8 then (l, 0) else ([], 8)
theorem crewF_eq : ∀ (ls : List (List En)) (out : List En), mayL out = true → (∀ l ∈ ls, mayL l = true) → crewF out ls = crewA (mergeL out (uni ls))
  | [], out, ho, _ => by
    unfold crewF crewA
    rw [uni_nil, merge_nil, if_pos (may_len ho)]
  | x :: xs, out, ho, h => by
    have hx := h x (by simp)
    have hs := uni_srt (ls := xs) fun l hl => h l (by simp [hl])
    have e : mergeL out (uni (x :: xs)) = mergeL (mergeL out x) (uni xs) := by
      rw [uni_cons, merge_assoc (may_srt ho) (may_srt hx) hs]
    unfold crewF
    rw [e, mergeE_eq ho hx]
    by_cases h8 : (mergeL out x).length ≤ 8
    · rw [if_pos h8, if_pos rfl]
      have hr : mergeR out x = mergeL out x := by
        unfold mergeR
        rw [mergeE_eq ho hx, if_pos h8, if_pos rfl]
      rw [hr]
      exact crewF_eq xs _ (may_merge ho hx h8) fun l hl => h l (by simp [hl])
    · rw [if_neg h8, if_neg (by decide)]
      unfold crewA
      have := (merge_len (mergeL out x) (uni xs)).1
      rw [if_neg (by omega)]

/-- Two and two. -/
def rdP : List (List En) → List (List En)
  | a :: b :: r => mergeR a b :: rdP r
  | l => l
def rdEP : List (List En) → Nat
  | a :: b :: r => if mergeE a b = 0 then rdEP r else mergeE a b
  | _ => 0
theorem rdP_uni : ∀ (ls : List (List En)), (∀ l ∈ ls, mayL l = true) → rdEP ls = 0 → uni (rdP ls) = uni ls ∧ ∀ l ∈ rdP ls, mayL l = true
  | [], h, _ => ⟨rfl, h⟩
  | [a], h, _ => ⟨rfl, h⟩
  | a :: b :: r, h, he => by
    have ha := h a (by simp)
    have hb := h b (by simp)
    have hr : ∀ l ∈ r, mayL l = true := fun l hl => h l (by simp [hl])
    unfold rdEP at he
    by_cases h0 : mergeE a b = 0
    · rw [if_pos h0] at he
      obtain ⟨i1, i2⟩ := rdP_uni r hr he
      have h8 : (mergeL a b).length ≤ 8 := by
        rw [mergeE_eq ha hb] at h0
        by_cases q : (mergeL a b).length ≤ 8
        · exact q
        · rw [if_neg q] at h0; cases h0
      have hm : mergeR a b = mergeL a b := by unfold mergeR; rw [if_pos h0]
      unfold rdP
      rw [hm]
      refine ⟨?_, fun l hl => ?_⟩
      · rw [uni_cons, i1, uni_cons, uni_cons, merge_assoc (may_srt ha) (may_srt hb) (uni_srt hr)]
      · rcases List.mem_cons.1 hl with rfl | hl
        · exact may_merge ha hb h8
        · exact i2 l hl
    · rw [if_neg h0] at he
      exact absurd he h0
theorem rdEP_no : ∀ (ls : List (List En)), (∀ l ∈ ls, mayL l = true) → rdEP ls ≠ 0 → rdEP ls = 8 ∧ 8 < (uni ls).length
  | [], _, h => absurd rfl h
  | [a], _, h => absurd rfl h
  | a :: b :: r, h, he => by
    have ha := h a (by simp)
    have hb := h b (by simp)
    have hr : ∀ l ∈ r, mayL l = true := fun l hl => h l (by simp [hl])
    have e : uni (a :: b :: r) = mergeL (mergeL a b) (uni r) := by
      rw [uni_cons, uni_cons, merge_assoc (may_srt ha) (may_srt hb) (uni_srt hr)]
    rw [e]
    unfold rdEP at he ⊢
    by_cases h0 : mergeE a b = 0
    · rw [if_pos h0] at he ⊢
      obtain ⟨i1, i2⟩ := rdEP_no r hr he
      refine ⟨i1, ?_⟩
      have := len_right (merge_srt (may_srt ha) b) (uni_srt hr)
      omega
    · rw [if_neg h0]
      rw [mergeE_eq ha hb] at h0 ⊢
      by_cases q : (mergeL a b).length ≤ 8
      · rw [if_pos q] at h0; exact absurd rfl h0
      · rw [if_neg q]
        refine ⟨rfl, ?_⟩
        have := (merge_len (mergeL a b) (uni r)).1
        omega
theorem crewF_nil {ls : List (List En)} (h : ∀ l ∈ ls, mayL l = true) : crewF [] ls = crewA (uni ls) := by
  rw [crewF_eq ls [] (by rfl) h, nil_merge (uni_srt h)]
end Plain

theorem tR_up (a b : List Plain.En) (r : List (List Plain.En)) (i : Nat) : tR (a :: b :: r) (i + 1) = tR r i := by
  unfold tR
  rw [show 2 * (i + 1) = 2 * i + 1 + 1 by omega, show 2 * i + 1 + 1 + 1 = (2 * i + 1) + 1 + 1 by omega]
  rfl
theorem tE_up (a b : List Plain.En) (r : List (List Plain.En)) (i : Nat) : tE (a :: b :: r) (i + 1) = tE r i := by
  unfold tE
  rw [show 2 * (i + 1) = 2 * i + 1 + 1 by omega, show 2 * i + 1 + 1 + 1 = (2 * i + 1) + 1 + 1 by omega]
  rfl
theorem rdL_P : ∀ ls : List (List Plain.En), rdL ls ls.length = Plain.rdP ls
  | [] => by simp [rdL, Plain.rdP]
  | [a] => by simp [rdL, Plain.rdP]
  | a :: b :: r => by
    have ih := rdL_P r
    unfold Plain.rdP
    rw [← ih]
    unfold rdL
    have e1 : (a :: b :: r).length / 2 = r.length / 2 + 1 := by simp; omega
    have e2 : (a :: b :: r).length % 2 = r.length % 2 := by simp; omega
    rw [e1, e2, List.range_succ_eq_map, List.map_cons, List.map_map, List.cons_append]
    congr 1
    congr 1
    by_cases h : r.length % 2 = 1
    · rw [if_pos h, if_pos h]
      congr 1
      have : (a :: b :: r).length - 1 = (r.length - 1) + 1 + 1 := by simp; omega
      rw [this]
      rfl
    · rw [if_neg h, if_neg h]
theorem firstE_cons (x : Int) (l : List Int) : firstE (x :: l) = if x = 0 then firstE l else x := by
  unfold firstE
  by_cases h : x = 0
  · subst h; simp
  · simp [h]
theorem rdE_P : ∀ ls : List (List Plain.En), rdE ls ls.length = (Plain.rdEP ls : Nat)
  | [] => by simp [rdE, Plain.rdEP, firstE]
  | [a] => by simp [rdE, Plain.rdEP, firstE]
  | a :: b :: r => by
    have ih := rdE_P r
    unfold rdE at ih ⊢
    have e1 : (a :: b :: r).length / 2 = r.length / 2 + 1 := by simp; omega
    rw [e1, List.range_succ_eq_map, List.map_cons, List.map_map, firstE_cons]
    have e3 : (List.range (r.length / 2)).map ((fun i => (tE (a :: b :: r) i : Int)) ∘ Nat.succ) = (List.range (r.length / 2)).map fun i => (tE r i : Int) := by
      apply List.map_congr_left
      intro i _
      show ((tE (a :: b :: r) (i + 1) : Nat) : Int) = _
      rw [tE_up]
    rw [e3, ih]
    have e9 : Plain.rdEP (a :: b :: r) = if Plain.mergeE a b = 0 then Plain.rdEP r else Plain.mergeE a b := by rw [Plain.rdEP]
    rw [e9]
    have e0 : tE (a :: b :: r) 0 = Plain.mergeE a b := rfl
    rw [e0]
    by_cases h : Plain.mergeE a b = 0
    · rw [if_pos h, if_pos (by omega)]
    · rw [if_neg h, if_neg (by omega)]
end Go.Proofs.Ytcobehkadhcjiaa
