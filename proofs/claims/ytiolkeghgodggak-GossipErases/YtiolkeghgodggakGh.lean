/-
  A label with one more in it; what is found among entries: plain; for GossipLast and GossipErases.
-/
import Derived.Test.YtiolkeghgodggakGg
namespace Go.Proofs.Ytiolkeghgodggak
open Go.RowKit Go.Shelf Go.Sort
namespace Plain
/-- The first label, and one more in it. -/
def labO (L : List Int) (w : Nat) : List Int := L.set 0 ((((labAt L 0).toNat ||| 2 ^ w : Nat)) : Int)
theorem labO_len (L : List Int) (w : Nat) : (labO L w).length = L.length := by simp [labO]
theorem labO_zero (L : List Int) (w : Nat) (h : 0 < L.length) : labAt (labO L w) 0 = ((((labAt L 0).toNat ||| 2 ^ w : Nat)) : Int) := by
  unfold labO
  generalize ((((labAt L 0).toNat ||| 2 ^ w : Nat)) : Int) = x
  unfold labAt
  simp [List.getD_eq_getElem?_getD, h]
theorem labO_other (L : List Int) (w : Nat) {j : Nat} (h : j ≠ 0) : labAt (labO L w) j = labAt L j := by
  unfold labO
  generalize ((((labAt L 0).toNat ||| 2 ^ w : Nat)) : Int) = x
  unfold labAt
  rw [List.getD_eq_getElem?_getD, List.getD_eq_getElem?_getD, List.getElem?_set_ne (Ne.symm h)]
theorem labO_in {L : List Int} (h : ∀ x, x ∈ L → 0 ≤ x ∧ x < 16) (hl : 0 < L.length) {w : Nat} (hw : w < 4) : ∀ x, x ∈ labO L w → 0 ≤ x ∧ x < 16 := by
  intro x hx
  rcases List.mem_or_eq_of_mem_set hx with h1 | h1
  · exact h x h1
  · have h0 := h (labAt L 0) (getD_mem L 0 hl)
    have h2 : (labAt L 0).toNat < 2 ^ 4 := by omega
    have h3 : 2 ^ w < 2 ^ 4 := Nat.pow_lt_pow_right (by decide) hw
    have := Nat.or_lt_two_pow h2 h3
    omega
theorem labO_reads (L : List Int) (w : Nat) (h : 0 < L.length) : reads (labAt (labO L w) 0) w = true := by
  rw [labO_zero L w h, LabP.reads_bit, Nat.testBit_or, Nat.testBit_two_pow_self]
  simp
/-- The entry that is looked for. -/
def isE (k v : Int) (w : Nat) (e : En) : Bool := e.key == k && (e.value == v && (e.who == (w : Int) && !e.gone))
theorem any_take (p : En → Bool) (l : List En) (k : Nat) (h : k < l.length) : (l.take (k + 1)).any p = ((l.take k).any p || p (en l k)) := by
  rw [List.take_succ_eq_append_getElem h, List.any_append, en_lt h]; simp
theorem any_is {k v : Int} {w : Nat} {l : List En} {e : En} (h : look k l = some e) (hv : e.value = v) (hw : e.who = w) (hg : e.gone = false) : l.any (isE k v w) = true := by
  have := look_key h
  exact List.any_eq_true.2 ⟨e, this.2, by unfold isE; rw [this.1, hv, hw, hg]; simp⟩
/-- Is what has the key gone? -/
def fndG (k : Int) (l : List En) : Bool := l.foldl (fun f e => if e.key = k then e.gone else f) false
theorem fndG_take (k : Int) (l : List En) (j : Nat) (h : j < l.length) : fndG k (l.take (j + 1)) = if (en l j).key = k then (en l j).gone else fndG k (l.take j) := by
  unfold fndG
  rw [List.take_succ_eq_append_getElem h, List.foldl_append, en_lt h]
  rfl
theorem fnd_acc {k : Int} {l : List En} (h : ∀ e ∈ l, e.key ≠ k) (f : Bool) : l.foldl (fun f e => if e.key = k then e.gone else f) f = f := by
  induction l generalizing f with
  | nil => rfl
  | cons a l ih =>
    rw [List.foldl_cons, if_neg (h a (List.mem_cons_self ..))]
    exact ih (fun e he => h e (List.mem_cons_of_mem _ he)) f
theorem fnd_look {k : Int} {l : List En} (hs : Srt l) {e : En} (h : look k l = some e) (f : Bool) : l.foldl (fun f e => if e.key = k then e.gone else f) f = e.gone := by
  induction l generalizing f with
  | nil => cases h
  | cons a l ih =>
    have h1 := List.pairwise_cons.1 hs
    rw [look_cons] at h
    rw [List.foldl_cons]
    by_cases hk : a.key = k
    · rw [if_pos hk] at h ⊢
      injection h with h
      subst h
      exact fnd_acc (fun x hx => by have := h1.1 x hx; omega) _
    · rw [if_neg hk] at h ⊢
      exact ih h1.2 h f
end Plain
end Go.Proofs.Ytiolkeghgodggak
