/-
  Gossip, plain: what the laws ask.
-/
import Derived.Test.YtiolkeghgodggakGq
namespace Go.Proofs.Ytiolkeghgodggak
namespace Plain

/-- The turn that is made of a talk. -/
def tuOf (t : Tu) : Tu :=
  if t.kind % 5 = 0 ∨ t.kind % 5 = 1 then ⟨1, t.who % 4, 0, t.label % 3, t.key % 5, t.value % 9⟩
  else if t.kind % 5 = 2 then ⟨2, t.who % 4, 0, t.label % 3, t.key % 5, 0⟩
  else ⟨3, t.who % 4, t.to % 4, 0, 0, 0⟩
def turnsF (l : List Tu) (n : Nat) : List Tu := (l.take n).map tuOf
theorem turnsF_len (l : List Tu) (n : Nat) : (turnsF l n).length ≤ n := by simp [turnsF]; omega
theorem turnsF_step (l : List Tu) (n k : Nat) (h : k < l.length) (h2 : k < n) : turnsF (l.take (k + 1)) n = turnsF (l.take k) n ++ [tuOf (l.getD k default)] := by
  unfold turnsF
  rw [List.take_take, List.take_take, show min n (k + 1) = k + 1 by omega, show min n k = k by omega, List.take_succ_eq_append_getElem h, List.map_append]
  simp [h]
theorem turnsF_take (l : List Tu) (n k : Nat) (h : l.length ≤ k ∨ n ≤ k) : turnsF (l.take k) n = turnsF l n := by
  unfold turnsF
  rcases h with h | h
  · rw [List.take_of_length_le h]
  · rw [List.take_take, show min n k = n by omega]
/-- A turn that four branches may take. -/
def MayT (t : Tu) : Prop := ((t.kind = 1 ∨ t.kind = 2) ∧ (0 ≤ t.who ∧ t.who < 4) ∧ (0 ≤ t.label ∧ t.label < 3) ∧ (0 ≤ t.key ∧ t.key < 5) ∧ (0 ≤ t.value ∧ t.value < 9)) ∨ (t.kind = 3 ∧ (0 ≤ t.who ∧ t.who < 4) ∧ (0 ≤ t.to ∧ t.to < 4))
theorem tuOf_may (t : Tu) : MayT (tuOf t) := by
  unfold tuOf MayT
  split
  · left; dsimp only; omega
  split
  · left; dsimp only; omega
  · right; dsimp only; omega
theorem turnsF_may (l : List Tu) (n : Nat) : ∀ t, t ∈ turnsF l n → MayT t := by
  intro t ht
  obtain ⟨x, _, rfl⟩ := List.mem_map.1 ht
  exact tuOf_may x
theorem telC_may {a b : Nat} (ha : a < 4) (hb : b < 4) : MayT (telC a b) := .inr ⟨rfl, by show 0 ≤ (a : Int) ∧ (a : Int) < 4; omega, by show 0 ≤ (b : Int) ∧ (b : Int) < 4; omega⟩
theorem Four.step {L : List Int} {s : Stt} (h : Four s) {t : Tu} (ht : MayT t) : Four (tuS 4 L s t) := by
  unfold tuS
  by_cases h0 : tuE 4 L s t ≠ 0
  · rw [if_pos h0]; exact h
  rw [if_neg h0]
  by_cases h3 : t.kind = 3
  · rw [if_pos h3]
    exact h.tell (by rcases ht with ⟨_, _⟩ | ⟨_, _, h2⟩ <;> omega)
  · rw [if_neg h3]
    intro i j hi
    have hw : 0 ≤ t.who ∧ t.who < 4 := by rcases ht with ⟨_, h2, _⟩ | ⟨_, h2, _⟩ <;> exact h2
    unfold writeS
    rw [if_neg (by omega)]
    exact h i j hi
theorem Four.run {L : List Int} {s : Stt} (h : Four s) (l : List Tu) (hl : ∀ t, t ∈ l → MayT t) : Four (stF 4 L s l) := by
  induction l generalizing s with
  | nil => exact h
  | cons t l ih => exact ih (h.step (hl t (List.mem_cons_self ..))) fun x hx => hl x (List.mem_cons_of_mem _ hx)
theorem four_nil : Four Stt.nil := fun _ _ _ => rfl
/-- What turns from the beginning leave. -/
theorem run_ok {L : List Int} (l : List Tu) (hl : l.length ≤ 1000) : Gok 4 L (l.length : Int) (stF 4 L Stt.nil l) := by
  have := (Gok.nil 4 L).run (by decide) l ⟨Int.le_refl _, by omega⟩
  exact this.up (by omega)
theorem run_tel {L : List Int} (s : Stt) (n : Nat) : stF 4 L s (telL (rndP n)) = telS L s (rndP n) := stF_telL L s (rndP n) (rndP_lt n)
/-- GossipMeets. -/
theorem meets_law {L : List Int} (l : List Tu) (hl : l.length ≤ 100) (hm : ∀ t, t ∈ l → MayT t) :
    stF 4 L Stt.nil (l ++ telL (rndP 3)) = stF 4 L Stt.nil (l ++ telL (rndP 2)) ∧ (∀ i j, mayL (stF 4 L Stt.nil (l ++ telL (rndP 2)) i j) = true) ∧
      ∀ i k j, i < 4 → k < 4 → j < L.length → reads (labAt L j) i = true → reads (labAt L j) k = true → stF 4 L Stt.nil (l ++ telL (rndP 2)) i j = stF 4 L Stt.nil (l ++ telL (rndP 2)) k j := by
  have h := run_ok (L := L) l (by omega)
  have h4 := four_nil.run (L := L) l hm
  have e2 : stF 4 L Stt.nil (l ++ telL (rndP 2)) = telS L (stF 4 L Stt.nil l) allP := by rw [stF_app, run_tel]; exact rnd_once h h4 1
  have e3 : stF 4 L Stt.nil (l ++ telL (rndP 3)) = telS L (stF 4 L Stt.nil l) allP := by rw [stF_app, run_tel]; exact rnd_once h h4 2
  rw [e2, e3]
  exact ⟨rfl, fun i j => (h.tells allP).mayL i j, fun i k j hi hk hj hri hrk => by rw [met h h4 hi hj hri, met h h4 hk hj hrk]⟩
/-- GossipKeeps. -/
theorem keeps_law {L : List Int} (l : List Tu) (hl : l.length ≤ 100) {i j : Nat} (hr : reads (labAt L j) i = false) : stF 4 L Stt.nil l i j = [] := (run_ok (L := L) l (by omega)).out i j (.inl hr)
theorem keeps_code {L : List Int} (hL : L.length = 3) (l : List Tu) (hm : ∀ t, t ∈ l → MayT t) (k : Nat) (hk : k < l.length) (h1 : (l.getD k default).kind = 1) :
    (goF 4 L Stt.nil l).getD k 0 = if reads (labAt L (l.getD k default).label.toNat) (l.getD k default).who.toNat = true then 0 else 11 := by
  rw [goF_at _ _ _ _ k hk]
  have ht := hm (l.getD k default) (by rw [List.getD_eq_getElem?_getD, List.getElem?_eq_getElem hk]; exact List.getElem_mem _)
  generalize l.getD k default = t at *
  generalize stF 4 L Stt.nil (l.take k) = s
  rcases ht with ⟨_, h2, h3, h4, h5⟩ | ⟨h2, _⟩
  · unfold tuE
    rw [if_neg (by omega), if_neg (by omega), if_neg (by omega), if_neg (by rw [hL]; omega), if_neg (by omega)]
    cases reads (labAt L t.label.toNat) t.who.toNat with
    | true => rw [if_neg (by decide), if_neg (by omega), if_pos rfl]
    | false => rw [if_pos rfl, if_neg (by decide)]
  · omega
/-- GossipBlind: turns that differ under labels in which none of some is. -/
def Alk (P : Nat → Prop) (a b : List Tu) : Prop := a.length = b.length ∧ ∀ i, i < a.length → a.getD i default = b.getD i default ∨ ((a.getD i default).kind ≠ 3 ∧ (b.getD i default).kind ≠ 3 ∧ ¬ P (a.getD i default).label.toNat ∧ ¬ P (b.getD i default).label.toNat)
theorem blind_run {P : Nat → Prop} (hd : ∀ j, P j ∨ ¬ P j) {n : Nat} {L : List Int} {a b : List Tu} (h : Alk P a b) {s t : Stt} (hs : Bl P s t) : Bl P (stF n L s a) (stF n L t b) := by
  induction a generalizing b s t with
  | nil =>
    have : b = [] := List.length_eq_zero_iff.1 h.1.symm
    subst this; exact hs
  | cons x a ih =>
    cases b with
    | nil => have := h.1; simp at this
    | cons y b =>
      have h0 := h.2 0 (by simp)
      have hr : Alk P a b := ⟨by have := h.1; simpa using this, fun i hi => by have := h.2 (i + 1) (by simpa using hi); simpa using this⟩
      refine ih hr ?_
      have hx : (x :: a).getD 0 default = x := rfl
      have hy : (y :: b).getD 0 default = y := rfl
      rw [hx, hy] at h0
      rcases h0 with e | ⟨k1, k2, p1, p2⟩
      · subst e; exact hs.same x hd
      · exact ((bl_away k1 p1).symm.trans hs).trans (bl_away k2 p2)
theorem blind_law {P : Nat → Prop} (hd : ∀ j, P j ∨ ¬ P j) {L : List Int} {a b : List Tu} (h : Alk P a b) (hl : a.length ≤ 100) {i j : Nat} (hij : P j ∨ reads (labAt L j) i = false) : stF 4 L Stt.nil a i j = stF 4 L Stt.nil b i j := by
  rcases hij with hp | hr
  · exact blind_run hd h (s := Stt.nil) (t := Stt.nil) (fun _ _ _ => rfl) i j hp
  · rw [keeps_law a hl hr, keeps_law b (by rw [← h.1]; exact hl) hr]
/-- One writes, and everyone tells everyone. -/
theorem said_law {L : List Int} {T : Int} {s : Stt} (h : Gok 4 L T s) (h4 : Four s) {X : Nat → List En} (hX : Met L s X) (hT : 0 ≤ T ∧ T < 1000) {t : Tu} (hw : Wr 4 L s t) {i : Nat} (hi : i < 4) (hri : reads (labAt L t.label.toNat) i = true) :
    telS L (tuS 4 L s t) allP i t.label.toNat = tuS 4 L s t t.who.toNat t.label.toNat ∧ ∀ k, look k (tuS 4 L s t t.who.toNat t.label.toNat) = if t.key = k then some (entF (s t.who.toNat t.label.toNat) t) else look k (s t.who.toNat t.label.toNat) := by
  have hE := write_ok hw
  have e : tuS 4 L s t = writeS s t := by unfold tuS; rw [hE, if_neg (by decide), if_neg (by have := hw.kd; omega)]
  have g := h.write (by decide) ⟨hT.1, by omega⟩ hw
  have hwho := hw.wh
  have hla := hw.la
  have g4 : Four (writeS s t) := fun i j hi => by unfold writeS; rw [if_neg (by omega)]; exact h4 i j hi
  have eY : writeS s t t.who.toNat t.label.toNat = put (s t.who.toNat t.label.toNat) (entF (s t.who.toNat t.label.toNat) t) := by unfold writeS; rw [if_pos ⟨rfl, rfl⟩]
  rw [e]
  refine ⟨last_word g g4 (X := X t.label.toNat) (Y := writeS s t t.who.toNat t.label.toNat) (w := t.who.toNat) (by omega) (by omega) (fun k hk hne hr => ?_) rfl ?_ hi hri, fun k => ?_⟩
  · unfold writeS
    rw [if_neg (fun x => hne x.1)]
    exact hX k _ hk (by omega) hr
  · rw [eY, hX t.who.toNat t.label.toNat (by omega) (by omega) hw.rd]
    have hs : Srt (X t.label.toNat) := by rw [← hX t.who.toNat t.label.toNat (by omega) (by omega) hw.rd]; exact h.srt _ _
    exact ab_put hs rfl
  · rw [eY, put_new (h.srt _ _) rfl k]; rfl
end Plain
end Go.Proofs.Ytiolkeghgodggak
