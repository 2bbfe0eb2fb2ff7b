/-
  Holds, plain: what the laws on them lean on.
-/
import Derived.Test.YtiolkeghgodggahJp
namespace Go.Proofs.Ytiolkeghgodggah.Hd
namespace Plain

/-- Which holds were made, and are not open any more. -/
def Shut (r : Rk) (i : Nat) : Prop := i < r.ls.length ∧ r.ls.getD i 0 = 0
theorem getD_set0 (ls : List Int) (i j : Nat) : (ls.set j 0).getD i 0 = if j = i then 0 else ls.getD i 0 := by
  by_cases e : j = i
  · subst e
    rw [if_pos rfl, List.getD_eq_getElem?_getD, List.getElem?_set, if_pos rfl]
    split <;> rfl
  · rw [if_neg e, List.getD_eq_getElem?_getD, List.getElem?_set, if_neg e, List.getD_eq_getElem?_getD]
theorem getD_tick (ls : List Int) (i : Nat) : (tickL ls).getD i 0 = if 0 < ls.getD i 0 then ls.getD i 0 - 1 else ls.getD i 0 := by
  unfold tickL
  by_cases h : i < ls.length
  · simp [List.getD_eq_getElem?_getD, h]
  · rw [List.getD_eq_getElem?_getD, List.getElem?_eq_none (by simp; omega), List.getD_eq_getElem?_getD, List.getElem?_eq_none (by omega)]
    simp
theorem ordR_shut {r : Rk} (o : Or) {i : Nat} (h : Shut r i) : Shut (ordR r o) i := by
  obtain ⟨h1, h2⟩ := h
  unfold ordR
  split
  · exact ⟨h1, h2⟩
  split
  · exact ⟨h1, h2⟩
  split
  · exact ⟨h1, h2⟩
  split
  · refine ⟨by show i < (r.ls ++ [o.life]).length; simp; omega, ?_⟩
    show (r.ls ++ [o.life]).getD i 0 = 0
    rw [List.getD_eq_getElem?_getD, List.getElem?_append_left h1, ← List.getD_eq_getElem?_getD]; exact h2
  split
  · refine ⟨by show i < (r.ls.set _ 0).length; simpa using h1, ?_⟩
    show (r.ls.set _ 0).getD i 0 = 0
    rw [getD_set0]; split
    · rfl
    · exact h2
  split
  · refine ⟨by show i < (r.ls.set _ 0).length; simpa using h1, ?_⟩
    show (r.ls.set _ 0).getD i 0 = 0
    rw [getD_set0]; split
    · rfl
    · exact h2
  · refine ⟨by show i < (tickL r.ls).length; simpa [tickL] using h1, ?_⟩
    show (tickL r.ls).getD i 0 = 0
    rw [getD_tick, h2]; rfl
/-- What is not open any more never is again. -/
theorem stepR_shut {r : Rk} (o : Or) {i : Nat} (h : Shut r i) : Shut (stepR r o) i := by
  unfold stepR
  split
  · exact ordR_shut o h
  · exact h
/-- How many holds there were. -/
theorem stepR_made (r : Rk) (o : Or) : (stepR r o).cs.length = r.cs.length + if o.kind = 3 ∧ ordE r o = 0 then 1 else 0 := by
  unfold stepR
  by_cases e : ordE r o = 0
  · rw [if_pos e]
    unfold ordR
    by_cases k3 : o.kind = 3
    · rw [if_neg (by omega), if_neg (by omega), if_neg (by omega), if_pos k3, if_pos ⟨k3, e⟩]
      simp
    · rw [show (if o.kind = 3 ∧ ordE r o = 0 then 1 else 0) = 0 from if_neg (fun x => k3 x.1), Nat.add_zero]
      split
      · rfl
      split
      · rfl
      split
      · rfl
      split
      · rfl
      split <;> rfl
  · rw [if_neg e, if_neg (fun x => e x.2), Nat.add_zero]
/-- What is told of the end of a hold. -/
theorem ordE_end {r : Rk} {o : Or} (hk : o.kind = 4 ∨ o.kind = 5) : ordE r o = if o.id < 1 ∨ (r.cs.length : Int) < o.id then 6 else if r.ls.getD (o.id - 1).toNat 0 = 0 then 10 else 0 := by
  unfold ordE
  have hc : counted o.kind = false := by unfold counted; rw [decide_eq_false_iff_not]; omega
  rw [if_neg (by omega), if_neg (by rw [hc]; simp), if_neg (by omega), if_neg (by omega), if_neg (by omega), if_neg (by omega), if_neg (by omega)]
theorem end_shut {r : Rk} {o : Or} (hk : o.kind = 4 ∨ o.kind = 5) (hl : r.cs.length = r.ls.length) (h : ordE r o = 0) :
    1 ≤ o.id ∧ o.id ≤ r.cs.length ∧ ¬ Shut r (o.id - 1).toNat ∧ Shut (stepR r o) (o.id - 1).toNat := by
  have e := ordE_end (r := r) hk
  rw [h] at e
  by_cases a : o.id < 1 ∨ (r.cs.length : Int) < o.id
  · rw [if_pos a] at e; omega
  rw [if_neg a] at e
  by_cases b : r.ls.getD (o.id - 1).toNat 0 = 0
  · rw [if_pos b] at e; omega
  refine ⟨by omega, by omega, fun x => b x.2, ?_⟩
  unfold stepR
  rw [if_pos h]
  have hs : ∀ f u, Shut ⟨f, u, r.cs, r.ls.set (o.id - 1).toNat 0⟩ (o.id - 1).toNat := fun f u =>
    ⟨by show _ < (r.ls.set _ 0).length; simp; omega, by show (r.ls.set _ 0).getD _ 0 = 0; rw [getD_set0, if_pos rfl]⟩
  unfold ordR
  rw [if_neg (by omega), if_neg (by omega), if_neg (by omega), if_neg (by omega)]
  rcases hk with k | k
  · rw [if_pos k]; exact hs _ _
  · rw [if_neg (by omega), if_pos k]; exact hs _ _

/-- The orders that are not refused, and what is told of them. -/
def fewF (r : Rk) : List Or → List Or
  | [] => []
  | o :: l => if ordE r o = 0 then o :: fewF (stepR r o) l else fewF (stepR r o) l
def wantF (r : Rk) : List Or → List St
  | [] => []
  | o :: l => if ordE r o = 0 then toldR r o :: wantF (stepR r o) l else wantF (stepR r o) l
theorem play_few (r : Rk) (l : List Or) : playF r (fewF r l) = wantF r l := by
  induction l generalizing r with
  | nil => rfl
  | cons o l ih =>
    simp only [fewF, wantF]
    by_cases e : ordE r o = 0
    · rw [if_pos e, if_pos e]
      simp only [playF, ih]
    · rw [if_neg e, if_neg e, stepR_no e]; exact ih r
theorem fewF_app (r : Rk) (a b : List Or) : fewF r (a ++ b) = fewF r a ++ fewF (runF r a) b := by
  induction a generalizing r with
  | nil => rfl
  | cons o a ih => simp only [List.cons_append, fewF, runF, ih]; split <;> rfl
theorem wantF_app (r : Rk) (a b : List Or) : wantF r (a ++ b) = wantF r a ++ wantF (runF r a) b := by
  induction a generalizing r with
  | nil => rfl
  | cons o a ih => simp only [List.cons_append, wantF, runF, ih]; split <;> rfl
theorem fewF_take (r : Rk) (l : List Or) (k : Nat) (hk : k < l.length) : fewF r (l.take (k + 1)) = fewF r (l.take k) ++ if ordE (runF r (l.take k)) (l.getD k default) = 0 then [l.getD k default] else [] := by
  rw [List.take_succ_eq_append_getElem hk, fewF_app, List.getD_eq_getElem?_getD, List.getElem?_eq_getElem hk]
  simp [fewF]
theorem wantF_take (r : Rk) (l : List Or) (k : Nat) (hk : k < l.length) : wantF r (l.take (k + 1)) = wantF r (l.take k) ++ if ordE (runF r (l.take k)) (l.getD k default) = 0 then [toldR (runF r (l.take k)) (l.getD k default)] else [] := by
  rw [List.take_succ_eq_append_getElem hk, wantF_app, List.getD_eq_getElem?_getD, List.getElem?_eq_getElem hk]
  simp [wantF]
theorem fewF_len (r : Rk) (l : List Or) : (fewF r l).length ≤ l.length ∧ (wantF r l).length = (fewF r l).length := by
  have h := playF_len r (fewF r l)
  rw [play_few] at h
  refine ⟨?_, h⟩
  clear h
  induction l generalizing r with
  | nil => exact Nat.le_refl _
  | cons o l ih =>
    have := ih (stepR r o)
    simp only [fewF, List.length_cons]
    split
    · simp only [List.length_cons]; omega
    · omega

/-- The tick. -/
def tickO : Or := ⟨7, 0, 0, 0⟩
theorem ordE_tick (r : Rk) (c x i : Int) : ordE r ⟨7, c, x, i⟩ = 0 := by
  unfold ordE counted
  simp
theorem stepR_tick (r : Rk) (c x i : Int) : stepR r ⟨7, c, x, i⟩ = { r with free := r.free + overL r.cs r.ls, ls := tickL r.ls } := by
  unfold stepR
  rw [if_pos (ordE_tick r c x i)]
  rfl
/-- All ticks that there are left are at most k. -/
def Within (k : Int) (r : Rk) : Prop := ∀ x, x ∈ r.ls → 0 ≤ x ∧ x ≤ k
theorem within_tick {k : Int} {r : Rk} (h : Within (k + 1) r) (hk : 0 ≤ k) (c x i : Int) : Within k (stepR r ⟨7, c, x, i⟩) := by
  rw [stepR_tick]
  intro y hy
  obtain ⟨z, hz, rfl⟩ := List.mem_map.1 hy
  have := h z hz
  split <;> omega
theorem within_step {k : Int} {r : Rk} (h : Within k r) (o : Or) (hk : 0 ≤ k) (ho : o.life ≤ k) : Within k (stepR r o) := by
  unfold stepR
  by_cases e : ordE r o = 0
  · rw [if_pos e]
    unfold ordR
    split
    · exact h
    split
    · exact h
    split
    · exact h
    split
    · rename_i k3
      intro y hy
      have hy2 : y ∈ r.ls ++ [o.life] := hy
      rcases List.mem_append.1 hy2 with hy | hy
      · exact h y hy
      · have : y = o.life := by simpa using hy
        have hl : 1 ≤ o.life := by
          unfold ordE at e
          by_cases a : o.kind < 1 ∨ 7 < o.kind
          · omega
          rw [if_neg a] at e
          by_cases b : counted o.kind = true ∧ (o.count < 1 ∨ 1048576 < o.count)
          · rw [if_pos b] at e; omega
          rw [if_neg b, if_neg (by omega), if_neg (by omega), if_neg (by omega), if_pos k3] at e
          by_cases d : o.life < 1 ∨ 20 < o.life
          · rw [if_pos d] at e; omega
          · omega
        omega
    split
    · intro y hy
      rcases mem_set_or hy with hy | rfl
      · exact h y hy
      · omega
    split
    · intro y hy
      rcases mem_set_or hy with hy | rfl
      · exact h y hy
      · omega
    · intro y hy
      obtain ⟨z, hz, rfl⟩ := List.mem_map.1 hy
      have := h z hz
      split <;> omega
  · rw [if_neg e]; exact h
theorem within_run {k : Int} {r : Rk} (h : Within k r) (l : List Or) (hk : 0 ≤ k) (ho : ∀ o, o ∈ l → o.life ≤ k) : Within k (runF r l) := by
  induction l generalizing r with
  | nil => exact h
  | cons o l ih => exact ih (within_step h o hk (ho o (List.mem_cons_self ..))) fun x hx => ho x (List.mem_cons_of_mem _ hx)
/-- What orders of little gain. -/
theorem gain_le {r : Rk} (l : List Or) (m : Int) (hm : 0 ≤ m) (ho : ∀ o, o ∈ l → o.count ≤ m) : gainF r l ≤ m * l.length := by
  induction l generalizing r with
  | nil => simp [gainF]
  | cons o l ih =>
    have h1 := ih (r := stepR r o) fun x hx => ho x (List.mem_cons_of_mem _ hx)
    have h2 := ho o (List.mem_cons_self ..)
    have h3 : gainO r o ≤ m := by unfold gainO; split <;> omega
    simp only [gainF, List.length_cons]
    rw [show ((l.length + 1 : Nat) : Int) = (l.length : Int) + 1 by omega, Int.mul_add, Int.mul_one]
    omega
/-- Nothing is open. -/
def Zero (ls : List Int) : Prop := ∀ x, x ∈ ls → x = 0
theorem zero_held (cs ls : List Int) (h : Zero ls) : heldL cs ls = 0 ∧ overL cs ls = 0 ∧ opensL ls = 0 ∧ tickL ls = ls := by
  induction ls generalizing cs with
  | nil => cases cs <;> simp [heldL, overL, opensL, tickL]
  | cons x ls ih =>
    have hx := h x (List.mem_cons_self ..)
    subst hx
    have hz : Zero ls := fun y hy => h y (List.mem_cons_of_mem _ hy)
    have h4 := (ih [] hz).2.2
    cases cs with
    | nil =>
      refine ⟨by simp [heldL], by simp [overL], by simp [opensL, h4.1], ?_⟩
      have := h4.2
      unfold tickL at this ⊢
      simp [this]
    | cons c cs =>
      obtain ⟨h1, h2, _⟩ := ih cs hz
      refine ⟨by simp [heldL, h1], by simp [overL, h2], by simp [opensL, h4.1], ?_⟩
      have := h4.2
      unfold tickL at this ⊢
      simp [this]
theorem snoc_held (cs ls : List Int) (c x : Int) (hl : cs.length = ls.length) (h : Zero ls) :
    heldL (cs ++ [c]) (ls ++ [x]) = (if 0 < x then c else 0) ∧ overL (cs ++ [c]) (ls ++ [x]) = (if x = 1 then c else 0) := by
  induction cs generalizing ls with
  | nil =>
    have : ls = [] := List.length_eq_zero_iff.1 hl.symm
    subst this
    simp [heldL, overL]
  | cons d cs ih =>
    cases ls with
    | nil => simp at hl
    | cons y ls =>
      have hy := h y (List.mem_cons_self ..)
      subst hy
      obtain ⟨h1, h2⟩ := ih ls (by simpa using hl) fun z hz => h z (List.mem_cons_of_mem _ hz)
      simp only [List.cons_append, heldL, overL, h1, h2]
      simp
/-- How many ticks a hold of t has behind k, and what is free. -/
def lv (t : Int) (k : Nat) : Int := if t ≤ k then 0 else t - k
def lfr (f n t : Int) (k : Nat) : Int := if t ≤ k then f + n else f
theorem lv_tick (t : Int) (k : Nat) (_ht : 1 ≤ t) : (if 0 < lv t k then lv t k - 1 else lv t k) = lv t (k + 1) := by
  unfold lv
  by_cases a : t ≤ k
  · have b : t ≤ ((k + 1 : Nat) : Int) := by omega
    simp only [if_pos a, if_pos b]
    rfl
  · by_cases b : t ≤ ((k + 1 : Nat) : Int)
    · simp only [if_neg a, if_pos b]
      split <;> omega
    · simp only [if_neg a, if_neg b]
      split <;> omega
theorem lfr_tick (f n t : Int) (k : Nat) (_ht : 1 ≤ t) : lfr f n t k + (if lv t k = 1 then n else 0) = lfr f n t (k + 1) := by
  unfold lv lfr
  by_cases a : t ≤ k
  · have b : t ≤ ((k + 1 : Nat) : Int) := by omega
    simp only [if_pos a, if_pos b]
    split <;> omega
  · by_cases b : t ≤ ((k + 1 : Nat) : Int)
    · simp only [if_neg a, if_pos b]
      split <;> omega
    · simp only [if_neg a, if_neg b]
      split <;> omega
/-- A hold that was made last, behind k ticks. -/
def lastR (f u : Int) (cs ls : List Int) (n t : Int) (k : Nat) : Rk :=
  ⟨lfr f n t k, u, cs ++ [n], ls ++ [lv t k]⟩
theorem lastR_tick (f u : Int) (cs ls : List Int) (n t : Int) (k : Nat) (hl : cs.length = ls.length) (h : Zero ls) (ht : 1 ≤ t) (c x i : Int) :
    stepR (lastR f u cs ls n t k) ⟨7, c, x, i⟩ = lastR f u cs ls n t (k + 1) := by
  rw [stepR_tick]
  unfold lastR
  have e := (zero_held cs ls h).2.2.2
  have e2 : tickL (ls ++ [lv t k]) = ls ++ [lv t (k + 1)] := by
    unfold tickL at e ⊢
    rw [List.map_append, e]
    simp only [List.map_cons, List.map_nil]
    rw [lv_tick t k ht]
  simp only
  rw [e2, (snoc_held cs ls n _ hl h).2, lfr_tick f n t k ht]
theorem lastR_ticks (f u : Int) (cs ls : List Int) (n t : Int) (m k : Nat) (hl : cs.length = ls.length) (h : Zero ls) (ht : 1 ≤ t) :
    runF (lastR f u cs ls n t m) (List.replicate k tickO) = lastR f u cs ls n t (m + k) := by
  induction k generalizing m with
  | zero => rfl
  | succ k ih =>
    rw [List.replicate_succ]
    simp only [runF]
    unfold tickO at ih ⊢
    rw [lastR_tick f u cs ls n t m hl h ht, ih (m + 1)]
    congr 1
    omega
/-- Gain and hold, where nothing is open. -/
theorem ends_hold {r : Rk} {g : Int} (hv : Hv r g) (hz : Zero r.ls) (n t : Int) (n1 : 1 ≤ n) (n9 : n ≤ 9) (t1 : 1 ≤ t) (t20 : t ≤ 20) (hg : g + n ≤ 1048576) (a b c d : Int) :
    stepR r ⟨1, n, a, b⟩ = { r with free := r.free + n } ∧ toldR { r with free := r.free + n } ⟨3, n, t, c⟩ = ⟨0, r.cs.length + 1, r.free, n, r.used⟩ ∧
      stepR { r with free := r.free + n } ⟨3, n, t, d⟩ = lastR r.free r.used r.cs r.ls n t 0 := by
  have hfr := hv.fr
  have e1 : ordE r ⟨1, n, a, b⟩ = 0 := by
    have := hv.sm
    unfold ordE
    dsimp only
    rw [if_neg (by omega), if_neg (fun x => by have := x.2; omega), if_pos rfl, if_neg (by omega)]
  have e3 : ∀ i, ordE { r with free := r.free + n } ⟨3, n, t, i⟩ = 0 := fun i => by
    have hop := (zero_held r.cs r.ls hz).2.2.1
    unfold ordE
    dsimp only
    rw [if_neg (by omega), if_neg (fun x => by have := x.2; omega), if_neg (by omega), if_neg (by omega), if_neg (by omega), if_pos rfl, if_neg (by omega), if_neg (by rw [hop]; omega), if_neg (by omega)]
  have es : ∀ i, stepR { r with free := r.free + n } ⟨3, n, t, i⟩ = lastR r.free r.used r.cs r.ls n t 0 := fun i => by
    unfold stepR
    rw [if_pos (e3 i)]
    unfold ordR lastR lfr lv
    dsimp only
    rw [if_neg (by omega), if_neg (by omega), if_neg (by omega), if_pos rfl, if_neg (show ¬ t ≤ ((0 : Nat) : Int) by omega), if_neg (show ¬ t ≤ ((0 : Nat) : Int) by omega)]
    rw [show r.free + n - n = r.free by omega, show t - ((0 : Nat) : Int) = t by omega]
  refine ⟨?_, ?_, es d⟩
  · unfold stepR
    rw [if_pos e1]
    rfl
  · unfold toldR
    rw [es c, e3 c]
    unfold ordI
    rw [if_pos ⟨e3 c, rfl⟩]
    unfold lastR Rk.held lfr
    dsimp only
    rw [(snoc_held r.cs r.ls n _ hv.ln hz).1, if_neg (show ¬ t ≤ ((0 : Nat) : Int) by omega)]
    unfold lv
    rw [if_neg (show ¬ t ≤ ((0 : Nat) : Int) by omega), if_pos (by omega)]
/-- The end of that hold behind k ticks. -/
theorem ends_last {r : Rk} {g : Int} (hv : Hv r g) (hz : Zero r.ls) (n t : Int) (k : Nat) (a b : Int) :
    (k < t → toldR (lastR r.free r.used r.cs r.ls n t k) ⟨4, a, b, r.cs.length + 1⟩ = ⟨0, 0, r.free, 0, r.used + n⟩) ∧
    (t ≤ k → toldR (lastR r.free r.used r.cs r.ls n t k) ⟨4, a, b, r.cs.length + 1⟩ = ⟨10, 0, r.free + n, 0, r.used⟩) := by
  have hidx : ((r.cs.length : Int) + 1 - 1).toNat = r.ls.length := by have := hv.ln; omega
  have hE := ordE_end (r := lastR r.free r.used r.cs r.ls n t k) (o := ⟨4, a, b, r.cs.length + 1⟩) (.inl rfl)
  dsimp only at hE
  rw [if_neg (by unfold lastR; simp; omega), hidx] at hE
  have hg : (lastR r.free r.used r.cs r.ls n t k).ls.getD r.ls.length 0 = lv t k := by
    unfold lastR
    simp [List.getD_eq_getElem?_getD]
  rw [hg] at hE
  constructor
  · intro h
    have h' : ¬ t ≤ (k : Int) := by omega
    rw [if_neg (by unfold lv; rw [if_neg h']; omega)] at hE
    unfold toldR ordI stepR
    rw [if_pos hE, hE, if_neg (fun x => by have := x.2; simp at this)]
    unfold ordR
    dsimp only
    rw [if_neg (by omega), if_neg (by omega), if_neg (by omega), if_neg (by omega), if_pos rfl, hidx]
    unfold Rk.held lastR
    dsimp only
    have e1 : (r.ls ++ [lv t k]).set r.ls.length 0 = r.ls ++ [0] := by simp
    have e2 : (r.cs ++ [n]).getD r.ls.length 0 = n := by rw [← hv.ln]; simp [List.getD_eq_getElem?_getD]
    rw [e1, e2, (snoc_held r.cs r.ls n 0 hv.ln hz).1, if_neg (by omega)]
    unfold lfr
    rw [if_neg h']
  · intro h
    rw [if_pos (by unfold lv; rw [if_pos h])] at hE
    unfold toldR ordI stepR
    rw [hE, if_neg (by omega), if_neg (by omega)]
    unfold Rk.held lastR lfr lv
    dsimp only
    rw [if_pos h, if_pos h, (snoc_held r.cs r.ls n 0 hv.ln hz).1, if_neg (by omega)]
end Plain
end Go.Proofs.Ytiolkeghgodggah.Hd
