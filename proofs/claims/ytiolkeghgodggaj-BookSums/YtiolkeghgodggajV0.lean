/-
  Calls of pleas, plain.
-/
import Derived.Test.YtiolkeghgodggajBq
namespace Go.Proofs.Ytiolkeghgodggaj.Bo
namespace Plain
theorem caB_n' (b : Bk) (c : Ca) : (caB b c).n = b.n := by
  unfold caB
  split
  · rfl
  split
  · exact roundB_n b
  split <;> rfl
theorem bkF_n' (b : Bk) (l : List Ca) : (bkF b l).n = b.n := by
  induction l generalizing b with
  | nil => rfl
  | cons c l ih => show (bkF (caB b c) l).n = _; rw [ih, caB_n']
/-- The call that is made of a plea. -/
def callOf (p : Ca) : Ca := if p.kind % 6 = 0 then ⟨1, 0, 1 + p.count % 40⟩ else if p.kind % 6 ≤ 3 then ⟨2, p.who % 3, p.count % 60⟩ else ⟨3, 0, 0⟩
def callsF (l : List Ca) : List Ca := (l.take 100).map callOf
theorem callsF_len (l : List Ca) : (callsF l).length ≤ 100 := by simp [callsF]; omega
theorem callsF_step (l : List Ca) (k : Nat) (h : k < l.length) (h2 : k < 100) : callsF (l.take (k + 1)) = callsF (l.take k) ++ [callOf (l.getD k default)] := by
  unfold callsF
  rw [List.take_take, List.take_take, show min 100 (k + 1) = k + 1 by omega, show min 100 k = k by omega, List.take_succ_eq_append_getElem h, List.map_append]
  simp [h]
theorem callsF_take (l : List Ca) (k : Nat) (h : l.length ≤ k ∨ 100 ≤ k) : callsF (l.take k) = callsF l := by
  unfold callsF
  rcases h with h | h
  · rw [List.take_of_length_le h]
  · rw [List.take_take, show min 100 k = 100 by omega]
/-- A call that three branches may make. -/
def MayC (c : Ca) : Prop := (c.kind = 1 ∧ 1 ≤ c.count ∧ c.count ≤ 400) ∨ (c.kind = 2 ∧ (0 ≤ c.who ∧ c.who < 3) ∧ (0 ≤ c.count ∧ c.count < 60)) ∨ c.kind = 3
theorem callOf_may (p : Ca) : MayC (callOf p) := by
  unfold callOf MayC
  split
  · exact .inl ⟨rfl, by show 1 ≤ 1 + p.count % 40; omega, by show 1 + p.count % 40 ≤ 400; omega⟩
  split
  · exact .inr (.inl ⟨rfl, ⟨by show 0 ≤ p.who % 3; omega, by show p.who % 3 < 3; omega⟩, by show 0 ≤ p.count % 60; omega, by show p.count % 60 < 60; omega⟩)
  · exact .inr (.inr rfl)
theorem callsF_may (l : List Ca) : ∀ c, c ∈ callsF l → MayC c := by
  intro c hc
  obtain ⟨p, _, rfl⟩ := List.mem_map.1 hc
  exact callOf_may p
theorem may_ok {b : Bk} {c : Ca} (h : MayC c) (hn : b.n = 3) (he : b.ever ≤ 1000000) : caE b c = 0 := by
  unfold caE
  rcases h with ⟨h1, h2, h3⟩ | ⟨h1, h2, h3⟩ | h1
  · rw [if_neg (by omega), if_pos h1, if_neg (by omega), if_neg (by omega)]
  · rw [if_neg (by omega), if_neg (by omega), if_pos h1, if_neg (by rw [hn]; omega)]
  · rw [if_pos h1]
theorem ever_step {b : Bk} {c : Ca} (h : MayC c) : (caB b c).ever ≤ b.ever + 400 := by
  unfold caB
  split
  · omega
  split
  · rw [roundB_ever]; omega
  split
  · rename_i h1
    show b.ever + c.count ≤ _
    rcases h with ⟨_, _, h3⟩ | ⟨h2, _⟩ | h2 <;> omega
  · show b.ever ≤ _; omega
theorem ever_run {b : Bk} (l : List Ca) (h : ∀ c, c ∈ l → MayC c) : (bkF b l).ever ≤ b.ever + 400 * (l.length : Int) := by
  induction l generalizing b with
  | nil => show b.ever ≤ b.ever + 400 * ((0 : Nat) : Int); omega
  | cons c l ih =>
    have h1 := ih (b := caB b c) (fun x hx => h x (List.mem_cons_of_mem _ hx))
    have h2 := ever_step (b := b) (h c (List.mem_cons_self ..))
    show (bkF (caB b c) l).ever ≤ _
    rw [List.length_cons]
    push_cast
    omega
theorem may_take {l : List Ca} (h : ∀ c, c ∈ l → MayC c) (k : Nat) : ∀ c, c ∈ l.take k → MayC c := fun c hc => h c (List.mem_of_mem_take hc)
theorem ever_take {n : Nat} {cap : Int} {tk : Nat} {l : List Ca} (h : ∀ c, c ∈ l → MayC c) (hl : l.length ≤ 300) (k : Nat) : (bkF (Bk.new n cap tk) (l.take k)).ever ≤ 1000000 := by
  have h1 := ever_run (b := Bk.new n cap tk) (l.take k) (may_take h k)
  have h2 : (l.take k).length ≤ 300 := by rw [List.length_take]; omega
  have h3 : (Bk.new n cap tk).ever = 0 := rfl
  omega
theorem bookE_ok {cap : Int} {tk : Nat} {l : List Ca} (hc : 0 ≤ cap ∧ cap ≤ 1048576) (ht : 1 ≤ tk ∧ tk ≤ 8) (hl : l.length ≤ 300) : bookE 3 cap (tk : Int) l = 0 := by
  unfold bookE
  rw [if_neg (by omega), if_neg (by omega)]
theorem bookV_ok {cap : Int} {tk : Nat} {l : List Ca} (hc : 0 ≤ cap ∧ cap ≤ 1048576) (ht : 1 ≤ tk ∧ tk ≤ 8) (hl : l.length ≤ 300) : bookV 3 cap (tk : Int) l = bookF (Bk.new 3 cap tk) l := by
  unfold bookV
  rw [bookE_ok hc ht hl, if_neg (by decide), Int.toNat_natCast]; rfl
/-- What the small play comes to. -/
theorem split_35 : splitL 3 [5] = [3] := by
  have hw : Wm [5] := by
    intro w hw
    have e : w = 5 := by simpa using hw
    omega
  rw [split_of (t := 3) (L := 3) (r := 0) (ws := [5]) hw (by omega) (by decide) (by omega) (by decide) (by decide)]
  decide
def oneL : List Ca := [⟨1, 0, 3⟩, ⟨2, 0, 2⟩, ⟨3, 0, 0⟩]
theorem one_told : bookV 1 5 1 oneL = [⟨0, [], -1⟩, ⟨0, [], -1⟩, ⟨0, [2], 3⟩] := by
  have hE : bookE 1 5 1 oneL = 0 := by decide
  have h1 : caB (Bk.new 1 5 1) ⟨1, 0, 3⟩ = ⟨1, 5, 1, 0, 3, 3, [0], [0], [0], [0]⟩ := by decide
  have h2 : caB ⟨1, 5, 1, 0, 3, 3, [0], [0], [0], [0]⟩ ⟨2, 0, 2⟩ = ⟨1, 5, 1, 0, 3, 3, [2], [0], [0], [0]⟩ := by decide
  have hb : begB ⟨1, 5, 1, 0, 3, 3, [2], [0], [0], [0]⟩ = ⟨1, 5, 1, 0, 3, 3, [2], [0], [0], [3]⟩ := by
    unfold begB
    rw [if_pos rfl]
    show (⟨1, 5, 1, 0, 3, 3, [2], [0], zeros 1, splitL 3 [5]⟩ : Bk) = _
    rw [split_35]; rfl
  have h3 : caT ⟨1, 5, 1, 0, 3, 3, [2], [0], [0], [0]⟩ ⟨3, 0, 0⟩ = ⟨0, [2], 3⟩ := by
    unfold caT
    rw [if_neg (by decide), if_pos rfl]
    unfold roundB
    rw [hb]
    decide
  unfold bookV
  rw [hE, if_neg (by decide)]
  show [caT (Bk.new 1 5 1) ⟨1, 0, 3⟩, caT (caB (Bk.new 1 5 1) ⟨1, 0, 3⟩) ⟨2, 0, 2⟩, caT (caB (caB (Bk.new 1 5 1) ⟨1, 0, 3⟩) ⟨2, 0, 2⟩) ⟨3, 0, 0⟩] = _
  rw [h1, h2, h3]
  rfl
theorem bookF_round {b : Bk} (h : Ok b) (l : List Ca) (k : Nat) (hk : k < l.length) (h3 : (l.getD k default).kind = 3) : ((bookF b l).getD k default).grants.length = b.n := by
  rw [bookF_at b l k hk]
  have hE : caE (bkF b (l.take k)) (l.getD k default) = 0 := by unfold caE; rw [if_pos h3]
  unfold caT
  rw [hE, if_neg (by decide), if_pos h3]
  show (roundB (bkF b (l.take k))).given.length = b.n
  rw [(h.run (l.take k)).round.lg, roundB_n, bkF_n']
end Plain
end Go.Proofs.Ytiolkeghgodggaj.Bo
