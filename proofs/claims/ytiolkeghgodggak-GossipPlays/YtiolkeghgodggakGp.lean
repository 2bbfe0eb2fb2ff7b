/-
  Gossip, plain: what turns come to, one by one.
-/
import Derived.Test.YtiolkeghgodggakEo
namespace Go.Proofs.Ytiolkeghgodggak
namespace Plain

/-- A turn. -/
structure Tu where
  kind : Int
  who : Int
  to : Int
  label : Int
  key : Int
  value : Int
  deriving DecidableEq, Inhabited
/-- What each branch has of each label. -/
abbrev Stt := Nat → Nat → List En
def Stt.nil : Stt := fun _ _ => []
/-- Is the branch in the label? -/
def reads (s : Int) (who : Nat) : Bool := s.toNat / 2 ^ who % 2 == 1
/-- The greatest time. -/
def maxT (l : List En) : Int := l.foldl (fun t e => max t e.time) 0
def labAt (L : List Int) (j : Nat) : Int := L.getD j 0
/-- Is there an entry that is not gone? -/
def lives (k : Int) (l : List En) : Bool := match look k l with
  | some e => !e.gone
  | none => false
/-- Which error a turn comes to; 0: none. -/
def tuE (n : Nat) (L : List Int) (s : Stt) (t : Tu) : Nat :=
  if t.kind < 1 ∨ 3 < t.kind then 3
  else if t.who < 0 ∨ (n : Int) ≤ t.who then 2
  else if t.kind = 3 then (if t.to < 0 ∨ (n : Int) ≤ t.to then 2 else 0)
  else if (t.label < 0 ∨ (L.length : Int) ≤ t.label) ∨ (t.key < 0 ∨ 7 < t.key) then 2
  else if t.kind = 1 ∧ (t.value < 0 ∨ 255 < t.value) then 2
  else if reads (labAt L t.label.toNat) t.who.toNat = false then 11
  else if t.kind = 2 ∧ lives t.key (s t.who.toNat t.label.toNat) = false then 6
  else 0
/-- The entry that is written. -/
def entF (l : List En) (t : Tu) : En := ⟨t.key, if t.kind = 1 then t.value else 0, maxT l + 1, t.who, decide (t.kind = 2)⟩
def writeS (s : Stt) (t : Tu) : Stt := fun i j => if i = t.who.toNat ∧ j = t.label.toNat then put (s i j) (entF (s i j) t) else s i j
def tellS (L : List Int) (s : Stt) (a b : Nat) : Stt := fun i j => if (i = b ∧ j < L.length) ∧ (reads (labAt L j) a = true ∧ reads (labAt L j) b = true) then mergeL (s i j) (s a j) else s i j
def tuS (n : Nat) (L : List Int) (s : Stt) (t : Tu) : Stt :=
  if tuE n L s t ≠ 0 then s else if t.kind = 3 then tellS L s t.who.toNat t.to.toNat else writeS s t
def goF (n : Nat) (L : List Int) (s : Stt) : List Tu → List Nat
  | [] => []
  | t :: l => tuE n L s t :: goF n L (tuS n L s t) l
def stF (n : Nat) (L : List Int) (s : Stt) : List Tu → Stt
  | [] => s
  | t :: l => stF n L (tuS n L s t) l
theorem goF_len (n : Nat) (L : List Int) (s : Stt) (l : List Tu) : (goF n L s l).length = l.length := by
  induction l generalizing s with
  | nil => rfl
  | cons t l ih => simp [goF, ih]
theorem stF_app (n : Nat) (L : List Int) (s : Stt) (x y : List Tu) : stF n L s (x ++ y) = stF n L (stF n L s x) y := by
  induction x generalizing s with
  | nil => rfl
  | cons t x ih => simp only [List.cons_append, stF, ih]
theorem goF_app (n : Nat) (L : List Int) (s : Stt) (x y : List Tu) : goF n L s (x ++ y) = goF n L s x ++ goF n L (stF n L s x) y := by
  induction x generalizing s with
  | nil => rfl
  | cons t x ih => simp only [List.cons_append, goF, stF, ih]
theorem stF_take (n : Nat) (L : List Int) (s : Stt) (l : List Tu) (k : Nat) (hk : k < l.length) : stF n L s (l.take (k + 1)) = tuS n L (stF n L s (l.take k)) (l.getD k default) := by
  rw [List.take_succ_eq_append_getElem hk, stF_app, List.getD_eq_getElem?_getD, List.getElem?_eq_getElem hk]
  rfl
theorem goF_take (n : Nat) (L : List Int) (s : Stt) (l : List Tu) (k : Nat) (hk : k < l.length) : goF n L s (l.take (k + 1)) = goF n L s (l.take k) ++ [tuE n L (stF n L s (l.take k)) (l.getD k default)] := by
  rw [List.take_succ_eq_append_getElem hk, goF_app, List.getD_eq_getElem?_getD, List.getElem?_eq_getElem hk]
  rfl
theorem goF_at (n : Nat) (L : List Int) (s : Stt) (l : List Tu) (k : Nat) (hk : k < l.length) : (goF n L s l).getD k 0 = tuE n L (stF n L s (l.take k)) (l.getD k default) := by
  induction l generalizing s k with
  | nil => simp at hk
  | cons t l ih =>
    cases k with
    | zero => rfl
    | succ k => simpa [goF, stF] using ih (tuS n L s t) k (by simpa using hk)
/-- What the play answers: the error first. -/
def goE (n : Int) (L : List Int) (l : List Tu) : Nat :=
  if n < 1 ∨ 8 < n then 2
  else if L.any (fun s => decide (s < 0 ∨ (2 : Int) ^ n.toNat ≤ s)) = true then 2
  else if 4 < L.length ∨ 300 < l.length then 1
  else 0

/-! ### Times -/
theorem maxT_nil : maxT [] = 0 := rfl
theorem maxT_acc (l : List En) (t : Int) (ht : 0 ≤ t) : l.foldl (fun t e => max t e.time) t = max t (maxT l) := by
  unfold maxT
  induction l generalizing t with
  | nil => simp only [List.foldl_nil]; omega
  | cons a l ih =>
    simp only [List.foldl_cons]
    rw [ih (max t a.time) (by omega), ih (max 0 a.time) (by omega)]
    omega
theorem maxT_cons (a : En) (l : List En) : maxT (a :: l) = max (max 0 a.time) (maxT l) := by
  show l.foldl (fun t e => max t e.time) (max 0 a.time) = _
  exact maxT_acc l _ (by omega)
theorem maxT_pos (l : List En) : 0 ≤ maxT l := by
  induction l with
  | nil => exact Int.le_refl _
  | cons a l ih => rw [maxT_cons]; omega
theorem maxT_ge {l : List En} {e : En} (h : e ∈ l) : e.time ≤ maxT l := by
  induction l with
  | nil => simp at h
  | cons a l ih =>
    rw [maxT_cons]
    rcases List.mem_cons.1 h with rfl | h
    · omega
    · have := ih h; omega
theorem maxT_le {l : List En} {b : Int} (hb : 0 ≤ b) (h : ∀ e ∈ l, e.time ≤ b) : maxT l ≤ b := by
  induction l with
  | nil => exact hb
  | cons a l ih =>
    rw [maxT_cons]
    have h1 := h a (List.mem_cons_self ..)
    have h2 := ih fun e he => h e (List.mem_cons_of_mem _ he)
    omega
/-- What is written is newer than all that is there. -/
theorem new_newer {l : List En} {e x : En} (he : e.time = maxT l + 1) (hx : x ∈ l) : newer e x = true := by
  have := maxT_ge hx
  unfold newer
  rw [if_neg (by omega)]
  exact decide_eq_true (by omega)
/-- What is written stands instead of what was there. -/
theorem put_new {l : List En} (hs : Srt l) {e : En} (he : e.time = maxT l + 1) (k : Int) : look k (put l e) = if e.key = k then some e else look k l := by
  rw [put_look hs e k]
  by_cases h : e.key = k
  · rw [if_pos h, if_pos h]
    cases hl : look k l with
    | none => rfl
    | some x =>
      show some (top x e) = some e
      have hx := (look_key hl).2
      unfold top
      rw [if_pos (new_newer he hx)]
  · rw [if_neg h, if_neg h, comb_none]

/-! ### What holds of what each has -/
structure Gok (n : Nat) (L : List Int) (T : Int) (s : Stt) : Prop where
  srt : ∀ i j, Srt (s i j)
  may : ∀ i j, ∀ e ∈ s i j, mayB e = true ∧ (0 ≤ e.key ∧ e.key < 8) ∧ e.time ≤ T ∧ e.value ≤ 255
  out : ∀ i j, (reads (labAt L j) i = false ∨ L.length ≤ j) → s i j = []
theorem Gok.nil (n : Nat) (L : List Int) : Gok n L 0 Stt.nil := ⟨fun _ _ => List.Pairwise.nil, fun _ _ e he => by simp [Stt.nil] at he, fun _ _ _ => rfl⟩
theorem Gok.up {n : Nat} {L : List Int} {T T' : Int} {s : Stt} (h : Gok n L T s) (hT : T ≤ T') : Gok n L T' s := ⟨h.srt, fun i j e he => by have := h.may i j e he; exact ⟨this.1, this.2.1, by omega, this.2.2.2⟩, h.out⟩
theorem Gok.len {n : Nat} {L : List Int} {T : Int} {s : Stt} (h : Gok n L T s) (i j : Nat) : (s i j).length ≤ 8 := by
  have := srt_len (h.srt i j) 0 8 (fun e he => (h.may i j e he).2.1)
  simpa using this
theorem Gok.mayL {n : Nat} {L : List Int} {T : Int} {s : Stt} (h : Gok n L T s) (i j : Nat) : mayL (s i j) = true := (may_iff _).2 ⟨h.len i j, fun e he => (h.may i j e he).1, h.srt i j⟩
theorem Gok.tell {n : Nat} {L : List Int} {T : Int} {s : Stt} (h : Gok n L T s) (a b : Nat) : Gok n L T (tellS L s a b) := by
  refine ⟨fun i j => ?_, fun i j e he => ?_, fun i j hx => ?_⟩
  · unfold tellS
    split
    · exact merge_srt (h.srt i j) _
    · exact h.srt i j
  · unfold tellS at he
    split at he
    · rcases merge_mem he with h1 | h1
      · exact h.may i j e h1
      · exact h.may a j e h1
    · exact h.may i j e he
  · unfold tellS
    split
    · rename_i hc
      obtain ⟨⟨rfl, h1⟩, _, h2⟩ := hc
      rcases hx with hx | hx
      · rw [h2] at hx; cases hx
      · omega
    · exact h.out i j hx
theorem tuE_tell {n : Nat} {L : List Int} {s : Stt} {t : Tu} (h : tuE n L s t = 0) (h3 : t.kind = 3) : 0 ≤ t.who ∧ t.who < n ∧ 0 ≤ t.to ∧ t.to < n := by
  unfold tuE at h
  by_cases c1 : t.kind < 1 ∨ 3 < t.kind
  · rw [if_pos c1] at h; omega
  rw [if_neg c1] at h
  by_cases c2 : t.who < 0 ∨ (n : Int) ≤ t.who
  · rw [if_pos c2] at h; omega
  rw [if_neg c2, if_pos h3] at h
  by_cases c3 : t.to < 0 ∨ (n : Int) ≤ t.to
  · rw [if_pos c3] at h; omega
  omega
/-- A turn that writes, or erases. -/
structure Wr (n : Nat) (L : List Int) (s : Stt) (t : Tu) : Prop where
  kd : t.kind = 1 ∨ t.kind = 2
  wh : 0 ≤ t.who ∧ t.who < n
  la : 0 ≤ t.label ∧ t.label < L.length
  ke : 0 ≤ t.key ∧ t.key < 8
  va : t.kind = 1 → 0 ≤ t.value ∧ t.value ≤ 255
  rd : reads (labAt L t.label.toNat) t.who.toNat = true
  lv : t.kind = 2 → lives t.key (s t.who.toNat t.label.toNat) = true
theorem tuE_write {n : Nat} {L : List Int} {s : Stt} {t : Tu} (h : tuE n L s t = 0) (h3 : t.kind ≠ 3) : Wr n L s t := by
  unfold tuE at h
  by_cases c1 : t.kind < 1 ∨ 3 < t.kind
  · rw [if_pos c1] at h; omega
  rw [if_neg c1] at h
  by_cases c2 : t.who < 0 ∨ (n : Int) ≤ t.who
  · rw [if_pos c2] at h; omega
  rw [if_neg c2, if_neg h3] at h
  by_cases c3 : (t.label < 0 ∨ (L.length : Int) ≤ t.label) ∨ (t.key < 0 ∨ 7 < t.key)
  · rw [if_pos c3] at h; omega
  rw [if_neg c3] at h
  by_cases c4 : t.kind = 1 ∧ (t.value < 0 ∨ 255 < t.value)
  · rw [if_pos c4] at h; omega
  rw [if_neg c4] at h
  by_cases c5 : reads (labAt L t.label.toNat) t.who.toNat = false
  · rw [if_pos c5] at h; omega
  rw [if_neg c5] at h
  by_cases c6 : t.kind = 2 ∧ lives t.key (s t.who.toNat t.label.toNat) = false
  · rw [if_pos c6] at h; omega
  exact ⟨by omega, by omega, by omega, by omega, fun hk => by omega, by simpa using c5, fun hk => by
    cases hl : lives t.key (s t.who.toNat t.label.toNat) with
    | true => rfl
    | false => exact absurd ⟨hk, hl⟩ c6⟩
theorem write_ok {n : Nat} {L : List Int} {s : Stt} {t : Tu} (h : Wr n L s t) : tuE n L s t = 0 := by
  have h1 := h.kd; have h2 := h.wh; have h3 := h.la; have h4 := h.ke; have h5 := h.va
  unfold tuE
  rw [if_neg (by omega), if_neg (by omega), if_neg (by omega), if_neg (by omega), if_neg (by omega), if_neg (by rw [h.rd]; decide), if_neg (fun x => by have := h.lv x.1; rw [this] at x; cases x.2)]
theorem Gok.write {n : Nat} {L : List Int} {T : Int} {s : Stt} {t : Tu} (h : Gok n L T s) (hn : n ≤ 8) (hT : 0 ≤ T ∧ T < 1000000) (hw : Wr n L s t) : Gok n L (T + 1) (writeS s t) := by
  refine ⟨fun i j => ?_, fun i j e he => ?_, fun i j hx => ?_⟩
  · unfold writeS
    split
    · exact put_srt (h.srt i j) _
    · exact h.srt i j
  · unfold writeS at he
    split at he
    · rcases put_mem he with rfl | h1
      · have hm := maxT_le hT.1 (fun e he => (h.may i j e he).2.2.1)
        have hp := maxT_pos (s i j)
        have h1 := hw.wh; have h2 := hw.ke; have h3 := hw.va; have h4 := hw.kd
        unfold entF mayB
        dsimp only
        refine ⟨decide_eq_true ⟨by omega, by split <;> omega, by omega, by omega, fun hg => ?_⟩, by omega, by omega, by split <;> omega⟩
        have := of_decide_eq_true hg
        rw [if_neg (by omega)]
      · have := h.may i j e h1
        exact ⟨this.1, this.2.1, by omega, this.2.2.2⟩
    · have := h.may i j e he
      exact ⟨this.1, this.2.1, by omega, this.2.2.2⟩
  · unfold writeS
    split
    · rename_i hc
      obtain ⟨rfl, rfl⟩ := hc
      have h1 := hw.rd; have h2 := hw.la
      rcases hx with hx | hx
      · rw [h1] at hx; cases hx
      · omega
    · exact h.out i j hx
theorem Gok.step {n : Nat} {L : List Int} {T : Int} {s : Stt} (h : Gok n L T s) (hn : n ≤ 8) (hT : 0 ≤ T ∧ T < 1000000) (t : Tu) : Gok n L (T + 1) (tuS n L s t) := by
  unfold tuS
  by_cases he : tuE n L s t ≠ 0
  · rw [if_pos he]; exact h.up (by omega)
  rw [if_neg he]
  by_cases h3 : t.kind = 3
  · rw [if_pos h3]; exact (h.tell _ _).up (by omega)
  · rw [if_neg h3]; exact h.write hn hT (tuE_write (Classical.not_not.1 he) h3)
theorem Gok.run {n : Nat} {L : List Int} {T : Int} {s : Stt} (h : Gok n L T s) (hn : n ≤ 8) (l : List Tu) (hT : 0 ≤ T ∧ T + l.length < 1000000) : Gok n L (T + l.length) (stF n L s l) := by
  induction l generalizing s T with
  | nil => exact h.up (by simp)
  | cons t l ih =>
    have hl : ((t :: l).length : Int) = 1 + l.length := by rw [List.length_cons]; push_cast; omega
    have := ih (h.step hn (by omega) t) (by omega)
    exact this.up (by omega)
end Plain
end Go.Proofs.Ytiolkeghgodggak
