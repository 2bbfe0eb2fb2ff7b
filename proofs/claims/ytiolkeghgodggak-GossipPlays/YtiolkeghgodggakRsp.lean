/-
  The document's shelves, plain: of each branch, label and key an entry, if there is one.
-/
import Derived.Test.YtiolkeghgodggakGu
namespace Go.Proofs.Ytiolkeghgodggak
namespace Plain
abbrev Shv := Nat → Nat → Nat → Option En
def Shv.nil : Shv := fun _ _ _ => none
/-- One place turns. -/
def Shv.upd (f : Shv) (i j k : Nat) (e : En) : Shv := fun a b c => if a = i ∧ b = j ∧ c = k then some e else f a b c
/-- An entry is learnt. -/
def Shv.learn (f : Shv) (i j : Nat) (e : En) : Shv := match f i j e.key.toNat with
  | none => f.upd i j e.key.toNat e
  | some x => if newer e x = true then f.upd i j e.key.toNat e else f
def Shv.learns (f : Shv) (i j : Nat) (l : List En) : Shv := l.foldl (fun f e => f.learn i j e) f
/-- Entries stand under their keys. -/
def Shv.Ok (f : Shv) : Prop := ∀ i j k e, f i j k = some e → e.key = (k : Int) ∧ k < 8
def Shv.st (f : Shv) : Stt := fun i j => listA (f i j) 8
theorem Shv.Ok.nil : Shv.nil.Ok := fun _ _ _ _ h => by cases h
theorem Shv.Ok.upd {f : Shv} (h : f.Ok) (i j k : Nat) (e : En) (he : e.key = (k : Int)) (hk : k < 8) : (f.upd i j k e).Ok := fun a b c x hx => by
  unfold Shv.upd at hx
  by_cases hh : a = i ∧ b = j ∧ c = k
  · rw [if_pos hh] at hx
    injection hx with hx
    subst hx
    rw [hh.2.2]
    exact ⟨he, hk⟩
  · rw [if_neg hh] at hx
    exact h a b c x hx
theorem Shv.Ok.keyed {f : Shv} (h : f.Ok) (i j : Nat) : Keyed8 (f i j) := fun k e he => (h i j k e he).1
theorem Shv.Ok.look {f : Shv} (h : f.Ok) (i j : Nat) {k : Nat} (hk : k < 8) : look (k : Int) (f.st i j) = f i j k := listA_look (h.keyed i j) hk
theorem Shv.Ok.srt {f : Shv} (h : f.Ok) (i j : Nat) : Srt (f.st i j) := listA_srt (h.keyed i j) 8
theorem upd_other (f : Shv) {i j k : Nat} (e : En) {a b : Nat} (h : ¬ (a = i ∧ b = j)) : (f.upd i j k e).st a b = f.st a b := by
  unfold Shv.st
  have : (f.upd i j k e) a b = f a b := by
    funext c
    unfold Shv.upd
    rw [if_neg (fun x => h ⟨x.1, x.2.1⟩)]
  rw [this]
/-- What is put there, where what was there is not newer. -/
theorem upd_put {f : Shv} (h : f.Ok) {i j k : Nat} {e : En} (he : e.key = (k : Int)) (hk : k < 8) (hn : ∀ x, f i j k = some x → newer e x = true) : (f.upd i j k e).st i j = put (f.st i j) e := by
  refine look_ext ((h.upd i j k e he hk).srt i j) (put_srt (h.srt i j) e) fun q => ?_
  rw [put_look (h.srt i j)]
  by_cases hq : 0 ≤ q ∧ q < 8
  · obtain ⟨c, rfl⟩ : ∃ c : Nat, q = (c : Int) := ⟨q.toNat, by omega⟩
    rw [(h.upd i j k e he hk).look i j (by omega), h.look i j (by omega)]
    by_cases hc : c = k
    · subst hc
      rw [if_pos he]
      unfold Shv.upd
      rw [if_pos ⟨rfl, rfl, rfl⟩]
      cases hx : f i j c with
      | none => rfl
      | some x =>
        show some e = some (top x e)
        unfold top
        rw [if_pos (hn x hx)]
    · rw [if_neg (by rw [he]; omega)]
      unfold Shv.upd
      rw [if_neg (fun x => hc x.2.2), comb_none]
  · have o1 : Plain.look q ((f.upd i j k e).st i j) = none := listA_out ((h.upd i j k e he hk).keyed i j) (by omega)
    have o2 : Plain.look q (f.st i j) = none := listA_out (h.keyed i j) (by omega)
    rw [o1, o2, if_neg (by rw [he]; omega)]
    rfl
theorem learn_ok {f : Shv} (h : f.Ok) (i j : Nat) {e : En} (hk : 0 ≤ e.key ∧ e.key < 8) : (f.learn i j e).Ok := by
  unfold Shv.learn
  split
  · exact h.upd i j _ e (by omega) (by omega)
  · split
    · exact h.upd i j _ e (by omega) (by omega)
    · exact h
theorem learn_st {f : Shv} (h : f.Ok) (i j : Nat) {e : En} (hk : 0 ≤ e.key ∧ e.key < 8) : (f.learn i j e).st i j = put (f.st i j) e := by
  have he : e.key = ((e.key.toNat : Nat) : Int) := by omega
  unfold Shv.learn
  split
  · rename_i hx
    exact upd_put h he (by omega) (fun x e2 => by rw [hx] at e2; cases e2)
  · rename_i x hx
    by_cases hn : newer e x = true
    · rw [if_pos hn]
      exact upd_put h he (by omega) (fun y e2 => by rw [hx] at e2; injection e2 with e2; subst e2; exact hn)
    · rw [if_neg hn]
      refine look_ext (h.srt i j) (put_srt (h.srt i j) e) fun q => ?_
      rw [put_look (h.srt i j)]
      by_cases hq : e.key = q
      · rw [if_pos hq, ← hq, he, h.look i j (by omega), hx]
        show some x = some (top x e)
        unfold top
        rw [if_neg hn]
      · rw [if_neg hq, comb_none]
theorem learn_other (f : Shv) {i j : Nat} (e : En) {a b : Nat} (h : ¬ (a = i ∧ b = j)) : (f.learn i j e).st a b = f.st a b := by
  unfold Shv.learn
  split
  · exact upd_other f e h
  · split
    · exact upd_other f e h
    · rfl
theorem learns_all {f : Shv} (h : f.Ok) (i j : Nat) (l : List En) (hk : ∀ e ∈ l, 0 ≤ e.key ∧ e.key < 8) : (f.learns i j l).Ok ∧ (f.learns i j l).st i j = mergeL (f.st i j) l ∧ ∀ a b, ¬ (a = i ∧ b = j) → (f.learns i j l).st a b = f.st a b := by
  induction l generalizing f with
  | nil => exact ⟨h, rfl, fun _ _ _ => rfl⟩
  | cons e l ih =>
    have h1 := hk e (List.mem_cons_self ..)
    have := ih (learn_ok h i j h1) (fun x hx => hk x (List.mem_cons_of_mem _ hx))
    refine ⟨this.1, ?_, fun a b hab => ?_⟩
    · show ((f.learn i j e).learns i j l).st i j = _
      rw [this.2.1, learn_st h i j h1]; rfl
    · show ((f.learn i j e).learns i j l).st a b = _
      rw [this.2.2 a b hab, learn_other f e hab]
theorem learns_take (f : Shv) (i j : Nat) (l : List En) (k : Nat) (h : k < l.length) : f.learns i j (l.take (k + 1)) = (f.learns i j (l.take k)).learn i j (en l k) := by
  unfold Shv.learns
  rw [List.take_succ_eq_append_getElem h, List.foldl_append, en_lt h]; rfl
/-- What is listed has keys from 0 on below 8. -/
theorem st_keys {f : Shv} (h : f.Ok) (i j : Nat) : ∀ e ∈ f.st i j, 0 ≤ e.key ∧ e.key < 8 := fun e he => by
  obtain ⟨k, hk, hf⟩ := listA_mem.1 he
  have := h i j k e hf
  omega
theorem st_nil : Shv.nil.st = Stt.nil := by
  funext i j
  rfl
/-- A label is told: what a branch has of it is learnt by another one. -/
theorem tell_one {f : Shv} (h : f.Ok) (a b j : Nat) : (f.learns b j (f.st a j)).Ok ∧ ∀ p q, (f.learns b j (f.st a j)).st p q = if p = b ∧ q = j then mergeL (f.st b j) (f.st a j) else f.st p q := by
  have := learns_all h b j (f.st a j) (st_keys h a j)
  refine ⟨this.1, fun p q => ?_⟩
  by_cases hh : p = b ∧ q = j
  · rw [if_pos hh, hh.1, hh.2, this.2.1]
  · rw [if_neg hh, this.2.2 p q hh]
end Plain
end Go.Proofs.Ytiolkeghgodggak
