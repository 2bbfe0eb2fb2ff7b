/-
  Goroutines among others: part 10 of what the law's own text rests on.
-/
import Derived.Test.YtcobehkadhcjiaaCc09
import Derived.Conc.Beside
import Derived.Conc.CrowdComm
import Derived.Conc.CrowdTrace
import Derived.Conc.CrowdBase
import Derived.Conc.QuitsD
import Derived.Conc.Own2
import Derived.Conc.DeferLaws
import Derived.Conc.Pipeline3
/-
  THE TRACE while some goroutines work beside the first: no race; what each knows.
-/
namespace Go.Proofs.Ytcobehkadhcjiaa
open Go Go.Conc

def blkOf : Loc → Option Nat
  | .cell a => some a.block
  | .obj r => some r
  | _ => none
theorem blk_of_mem {l : Loc} (h : l.isMemory = true) : ∃ b, blkOf l = some b := by cases l <;> first | exact ⟨_, rfl⟩ | cases h
theorem blk_low {l : Loc} {N b : Nat} (h : l.low N) (hb : blkOf l = some b) : b < N := by
  cases l <;> simp only [blkOf, Option.some.injEq] at hb <;> first | (subst hb; exact h) | cases hb
theorem touch_low {x : MemAct} {a : Touch} {N : Nat} (h : x.low N) (ha : x.touch? = some a) : a.loc.low N := by
  cases x with
  | access e => cases ha; exact h
  | mark m => cases m <;> simp only [MemAct.touch?, Option.some.injEq, reduceCtorEq] at ha <;> first | (subst ha; exact h) | cases ha
  | _ => cases ha

/-- A: who works beside the first. Pv k: the blocks that are k's alone; B: blocks that all of them may read. -/
structure TI (A : Nat → Prop) (Pv : Nat → Nat → Prop) (B : Nat → Prop) (Shun : Loc → Prop) (N : Nat) (t : Trace) : Prop where
  clean : ∀ said, ¬ Race said t
  main : ∀ i a, touchAt t i = some a → a.loc.isMemory = true → Knows t 0 i ∨ (Shun a.loc ∧ a.kind = .atomic) ∨ ∃ k b, A k ∧ t.g? i = some k ∧ blkOf a.loc = some b ∧ (Pv k b ∨ (B b ∧ a.write = false))
  wk : ∀ k, A k → ∀ i a, touchAt t i = some a → a.loc.isMemory = true → ∀ b, blkOf a.loc = some b → (Pv k b → Knows t k i) ∧ (B b → a.write = true → Knows t k i)
  over : ∀ i g, t.g? i = some g → g ≠ 0 → t.counts i → (∃ j, t.g? j = some 0 ∧ HappensBefore t i j) ∨ A g
  hears0 : Deaf t 0 = 0
  hearsk : ∀ k, A k → Deaf t k = 0
  seen : ∀ op ∈ t, op.act.low N

section
variable {A : Nat → Prop} {Pv : Nat → Nat → Prop} {B : Nat → Prop} {Shun : Loc → Prop} {N : Nat} {t u : Trace}

theorem TI.past (h : TI A Pv B Shun N t) (hA : ∀ k, ¬ A k) : Past Shun N t :=
  ⟨h.clean, fun i a ha hm => (h.main i a ha hm).imp id fun x => x.resolve_right fun ⟨k, _, hk, _⟩ => hA k hk, fun i g hg h0 hc => (h.over i g hg h0 hc).resolve_right (hA g), h.hears0, h.seen⟩
theorem Past.ti (h : Past Shun N t) (hA : ∀ k, ¬ A k) : TI A Pv B Shun N t :=
  ⟨h.clean, fun i a ha hm => (h.known i a ha hm).imp id .inl, fun k hk => absurd hk (hA k), fun i g hg h0 hc => .inl (h.over i g hg h0 hc), h.hears, fun k hk => absurd hk (hA k), h.seen⟩

/-- The places of a touch that is older lie below N. -/
theorem TI.below (h : TI A Pv B Shun N t) {i b : Nat} {a : Touch} (ha : touchAt t i = some a) (hb : blkOf a.loc = some b) : b < N := by
  obtain ⟨x, hx, hxa⟩ := touch_of ha
  exact blk_low (touch_low (h.seen x (Array.mem_of_getElem? hx)) hxa) hb

theorem g?_app {i : Nat} {g : Nat} (h : t.g? i = some g) : (t ++ u).g? i = some g := by
  have hi : i < t.size := by
    unfold Trace.g? at h
    obtain ⟨op, ho, _⟩ := Option.map_eq_some_iff.1 h
    exact lt_size_of_getElem? ho
  rw [g?_old hi]; exact h

/-- A step of the first's. -/
theorem TI.own0 {N' : Nat} (h : TI A Pv B Shun N t) (hN : N ≤ N') (hA0 : ¬ A 0) (hPB : ∀ k b, A k → Pv k b → b < N) (hBN : ∀ b, B b → b < N) (hu : ∀ op ∈ u, op.g = 0)
    (hm : ∀ op ∈ u, ∀ x, op.act.touch? = some x → x.loc.isMemory = true → ¬ Shun x.loc ∧ ∃ b, blkOf x.loc = some b ∧ (N ≤ b ∨ ((∀ k, A k → ¬ Pv k b) ∧ (x.write = true → (∃ k, A k) → ¬ B b))))
    (hd : ∀ op ∈ u, op.act ≠ .mark .disable ∧ op.act ≠ .mark .enable) (hl : ∀ op ∈ u, op.act.low N') : TI A Pv B Shun N' (t ++ u) := by
  have cases_ : ∀ {i : Nat} {a : Touch}, touchAt (t ++ u) i = some a → (touchAt t i = some a ∧ i < t.size) ∨ ∃ op, op ∈ u ∧ (t ++ u)[i]? = some op ∧ op.act.touch? = some a := fun {i a} ha => by
    obtain ⟨x, hx, hxa⟩ := touch_of ha
    rcases getElem?_append_cases hx with ⟨hi, hx'⟩ | ⟨_, hxu⟩
    · exact .inl ⟨by rw [touchAt_of hx']; exact hxa, hi⟩
    · exact .inr ⟨x, hxu, hx, hxa⟩
  refine ⟨fun said => noRace_append (h.clean said) hu fun i a ha op hop b hb hc => ?_, fun i a ha hmem => ?_, fun k hk i a ha hmem b hb => ?_, fun i g hg h0 hc => ?_, ?_, fun k hk => ?_, fun op hop => ?_⟩
  · obtain ⟨h1, h2, h3, h4⟩ := hc
    obtain ⟨hs, bb, hbb, hcase⟩ := hm op hop b hb (h1 ▸ h2)
    rcases h.main i a ha h2 with hk | ⟨hsa, _⟩ | ⟨k, b2, hAk, hg, hb2, hpv⟩
    · exact hk
    · exact absurd (h1 ▸ hsa) hs
    · exfalso
      rw [h1, hbb] at hb2
      obtain rfl := Option.some.inj hb2
      rcases hcase with hge | ⟨hnp, hnb⟩
      · have := h.below ha (h1 ▸ hbb); omega
      · rcases hpv with hp | ⟨hB, hw⟩
        · exact hnp k hAk hp
        · rcases h3 with h3 | h3
          · rw [hw] at h3; cases h3
          · exact hnb h3 ⟨k, hAk⟩ hB
  · rcases cases_ ha with ⟨ha', hi⟩ | ⟨op, hop, hx, _⟩
    · rcases h.main i a ha' hmem with hk | hs | ⟨k, b2, hAk, hg, hb2, hpv⟩
      · exact .inl (hk.app u)
      · exact .inr (.inl hs)
      · exact .inr (.inr ⟨k, b2, hAk, g?_app hg, hb2, hpv⟩)
    · have := knows_own hx
      rw [hu op hop] at this
      exact .inl this
  · rcases cases_ ha with ⟨ha', hi⟩ | ⟨op, hop, hx, hxa⟩
    · obtain ⟨h1, h2⟩ := h.wk k hk i a ha' hmem b hb
      exact ⟨fun x => (h1 x).app u, fun x y => (h2 x y).app u⟩
    · obtain ⟨_, bb, hbb, hcase⟩ := hm op hop a hxa hmem
      rw [hb] at hbb
      obtain rfl := Option.some.inj hbb
      rcases hcase with hge | ⟨hnp, hnb⟩
      · exact ⟨fun x => by have := hPB k b hk x; omega, fun x => by have := hBN b x; omega⟩
      · exact ⟨fun x => absurd x (hnp k hk), fun x y => absurd x (hnb y ⟨k, hk⟩)⟩
  · have hi : i < (t ++ u).size := by
      unfold Trace.g? at hg
      obtain ⟨op, ho, _⟩ := Option.map_eq_some_iff.1 hg
      exact lt_size_of_getElem? ho
    rcases Nat.lt_or_ge i t.size with hlt | hge
    · rw [g?_old hlt] at hg
      rw [counts_old hlt] at hc
      rcases h.over i g hg h0 hc with ⟨j, hj, hb⟩ | hA
      · exact .inl ⟨j, g?_app hj, hb_app u hb⟩
      · exact .inr hA
    · exfalso
      unfold Trace.g? at hg
      obtain ⟨op, ho, he⟩ := Option.map_eq_some_iff.1 hg
      rcases getElem?_append_cases ho with ⟨hlt, _⟩ | ⟨_, hou⟩
      · omega
      · exact h0 (by rw [← he]; exact hu op hou)
  · have : ∀ (l : List MemOp), (∀ op ∈ l, op.act ≠ .mark .disable ∧ op.act ≠ .mark .enable) → ∀ d, l.foldl (deafStep 0) d = d := by
      intro l
      induction l with
      | nil => intro _ d; rfl
      | cons y l ih =>
        intro hl d
        have hy := hl y (by simp)
        have e : deafStep 0 d y = d := by
          unfold deafStep
          split <;> simp_all
        rw [List.foldl_cons, e]
        exact ih (fun op hop => hl op (by simp [hop])) d
    have e := Deaf_append t 0 u.toList
    simp only [Array.toArray_toList] at e
    rw [e, this u.toList (fun op hop => hd op (by simpa using hop))]
    exact h.hears0
  · rw [Deaf_other t (g' := 0) (by rintro rfl; exact hA0 hk) u hu]
    exact h.hearsk k hk
  · rcases Array.mem_append.1 hop with ho | ho
    · exact MemAct.low_mono hN (h.seen op ho)
    · exact hl op ho

/-- A step of one that works. -/
theorem TI.ownk {N' k : Nat} (h : TI A Pv B Shun N t) (hN : N ≤ N') (hk : A k) (hk0 : k ≠ 0) (hPB : ∀ k b, A k → Pv k b → b < N) (hBN : ∀ b, B b → b < N) (hPP : ∀ k k' b, A k → A k' → Pv k b → Pv k' b → k = k') (hPnB : ∀ k b, A k → Pv k b → ¬ B b)
    (hu : ∀ op ∈ u, op.g = k)
    (hm : ∀ op ∈ u, ∀ x, op.act.touch? = some x → x.loc.isMemory = true → ∃ b, blkOf x.loc = some b ∧ ((N ≤ b ∧ b < N') ∨ Pv k b ∨ (B b ∧ x.write = false)) ∧ (x.kind = .plain → ¬ Shun x.loc))
    (hd : ∀ op ∈ u, op.act ≠ .mark .disable ∧ op.act ≠ .mark .enable) (hl : ∀ op ∈ u, op.act.low N') : TI A (fun k' b => Pv k' b ∨ (k' = k ∧ N ≤ b ∧ b < N')) B Shun N' (t ++ u) := by
  have cases_ : ∀ {i : Nat} {a : Touch}, touchAt (t ++ u) i = some a → (touchAt t i = some a ∧ i < t.size) ∨ ∃ op, op ∈ u ∧ (t ++ u)[i]? = some op ∧ op.act.touch? = some a := fun {i a} ha => by
    obtain ⟨x, hx, hxa⟩ := touch_of ha
    rcases getElem?_append_cases hx with ⟨hi, hx'⟩ | ⟨_, hxu⟩
    · exact .inl ⟨by rw [touchAt_of hx']; exact hxa, hi⟩
    · exact .inr ⟨x, hxu, hx, hxa⟩
  refine ⟨fun said => noRace_append (h.clean said) hu fun i a ha op hop b hb hc => ?_, fun i a ha hmem => ?_, fun k1 hk1 i a ha hmem b hb => ?_, fun i g hg h0 hc => ?_, ?_, fun k1 hk1 => ?_, fun op hop => ?_⟩
  · obtain ⟨h1, h2, h3, h4⟩ := hc
    obtain ⟨bb, hbb, hcase, _⟩ := hm op hop b hb (h1 ▸ h2)
    obtain ⟨hw1, hw2⟩ := h.wk k hk i a ha h2 bb (by rw [h1]; exact hbb)
    rcases hcase with ⟨hge, _⟩ | hp | ⟨hB, hw⟩
    · have := h.below ha (by rw [h1]; exact hbb); omega
    · exact hw1 hp
    · rcases h3 with h3 | h3
      · exact hw2 hB h3
      · rw [hw] at h3; cases h3
  · rcases cases_ ha with ⟨ha', hi⟩ | ⟨op, hop, hx, hxa⟩
    · rcases h.main i a ha' hmem with hk1 | hs | ⟨k1, b2, hAk, hg, hb2, hpv⟩
      · exact .inl (hk1.app u)
      · exact .inr (.inl hs)
      · exact .inr (.inr ⟨k1, b2, hAk, g?_app hg, hb2, hpv.imp .inl id⟩)
    · obtain ⟨bb, hbb, hcase, _⟩ := hm op hop a hxa hmem
      refine .inr (.inr ⟨k, bb, hk, by simp [Trace.g?, hx, hu op hop], hbb, ?_⟩)
      rcases hcase with hge | hp | hB
      · exact .inl (.inr ⟨rfl, hge⟩)
      · exact .inl (.inl hp)
      · exact .inr hB
  · rcases cases_ ha with ⟨ha', hi⟩ | ⟨op, hop, hx, hxa⟩
    · obtain ⟨h1, h2⟩ := h.wk k1 hk1 i a ha' hmem b hb
      refine ⟨fun x => ?_, fun x y => (h2 x y).app u⟩
      rcases x with x | ⟨rfl, hge, _⟩
      · exact (h1 x).app u
      · have := h.below ha' hb; omega
    · obtain ⟨bb, hbb, hcase, _⟩ := hm op hop a hxa hmem
      rw [hb] at hbb
      obtain rfl := Option.some.inj hbb
      have own : k1 = k → Knows (t ++ u) k1 i := fun e => by
        have := knows_own hx
        rw [hu op hop] at this
        rw [e]; exact this
      by_cases e : k1 = k
      · exact ⟨fun _ => own e, fun _ _ => own e⟩
      · refine ⟨fun x => ?_, fun x y => ?_⟩
        · exfalso
          rcases x with x | ⟨e', _⟩
          · rcases hcase with ⟨hge, _⟩ | hp | ⟨hB, _⟩
            · have := hPB k1 b hk1 x; omega
            · exact e (hPP k1 k b hk1 hk x hp)
            · exact hPnB k1 b hk1 x hB
          · exact e e'
        · exfalso
          rcases hcase with ⟨hge, _⟩ | hp | ⟨_, hw⟩
          · have := hBN b x; omega
          · exact hPnB k b hk hp x
          · rw [hw] at y; cases y
  · rcases Nat.lt_or_ge i t.size with hlt | hge
    · rw [g?_old hlt] at hg
      rw [counts_old hlt] at hc
      rcases h.over i g hg h0 hc with ⟨j, hj, hb⟩ | hA
      · exact .inl ⟨j, g?_app hj, hb_app u hb⟩
      · exact .inr hA
    · unfold Trace.g? at hg
      obtain ⟨op, ho, he⟩ := Option.map_eq_some_iff.1 hg
      rcases getElem?_append_cases ho with ⟨hlt, _⟩ | ⟨_, hou⟩
      · omega
      · exact .inr (by rw [← he, hu op hou]; exact hk)
  · rw [Deaf_other t (g' := k) hk0 u hu]; exact h.hears0
  · by_cases e : k1 = k
    · subst e
      have : ∀ (l : List MemOp), (∀ op ∈ l, op.act ≠ .mark .disable ∧ op.act ≠ .mark .enable) → ∀ d, l.foldl (deafStep k1) d = d := by
        intro l
        induction l with
        | nil => intro _ d; rfl
        | cons y l ih =>
          intro hl d
          have hy := hl y (by simp)
          have e : deafStep k1 d y = d := by
            unfold deafStep
            split <;> simp_all
          rw [List.foldl_cons, e]
          exact ih (fun op hop => hl op (by simp [hop])) d
      have e := Deaf_append t k1 u.toList
      simp only [Array.toArray_toList] at e
      rw [e, this u.toList (fun op hop => hd op (by simpa using hop))]
      exact h.hearsk k1 hk1
    · rw [Deaf_other t (g' := k) (fun x => e x.symm) u hu]; exact h.hearsk k1 hk1
  · rcases Array.mem_append.1 hop with ho | ho
    · exact MemAct.low_mono hN (h.seen op ho)
    · exact hl op ho

/-- Operations that touch nothing, of one that does not count any more. -/
theorem TI.mute {g : Nat} (h : TI A Pv B Shun N t) (hg0 : g ≠ 0) (hgA : ¬ A g) (hu : ∀ op ∈ u, op.g = g) (hn : ∀ op ∈ u, op.act.touch? = none) (hl : ∀ op ∈ u, op.act.low N) : TI A Pv B Shun N (t ++ u) := by
  have old : ∀ {i : Nat} {a : Touch}, touchAt (t ++ u) i = some a → touchAt t i = some a := fun {i a} ha => by
    obtain ⟨x, hx, hxa⟩ := touch_of ha
    rcases getElem?_append_cases hx with ⟨hi, hx'⟩ | ⟨_, hxu⟩
    · rw [touchAt_of hx']; exact hxa
    · rw [hn x hxu] at hxa; cases hxa
  refine ⟨fun said => noRace_append (h.clean said) hu fun i a _ op hop b hb _ => (by rw [hn op hop] at hb; cases hb), fun i a ha hm => ?_, fun k hk i a ha hm b hb => ?_, fun i g' hg' h0 hc => ?_, ?_, fun k hk => ?_, fun op hop => ?_⟩
  · rcases h.main i a (old ha) hm with hk | hs | ⟨k, b2, hAk, hg, hb2, hpv⟩
    · exact .inl (hk.app u)
    · exact .inr (.inl hs)
    · exact .inr (.inr ⟨k, b2, hAk, g?_app hg, hb2, hpv⟩)
  · obtain ⟨h1, h2⟩ := h.wk k hk i a (old ha) hm b hb
    exact ⟨fun x => (h1 x).app u, fun x y => (h2 x y).app u⟩
  · rcases Nat.lt_or_ge i t.size with hlt | hge
    · rw [g?_old hlt] at hg'
      rw [counts_old hlt] at hc
      rcases h.over i g' hg' h0 hc with ⟨j, hj, hb⟩ | hA
      · exact .inl ⟨j, g?_app hj, hb_app u hb⟩
      · exact .inr hA
    · exfalso
      obtain ⟨x, hx, _⟩ := hc
      have := old (i := i) hx
      obtain ⟨y, hy, _⟩ := touch_of this
      have := lt_size_of_getElem? hy
      omega
  · rw [Deaf_other t hg0 u hu]; exact h.hears0
  · rw [Deaf_other t (g := k) (g' := g) (by rintro rfl; exact hgA hk) u hu]; exact h.hearsk k hk
  · rcases Array.mem_append.1 hop with ho | ho
    · exact h.seen op ho
    · exact hl op ho

theorem old_touch {u : Trace} (hn : ∀ op ∈ u, op.act.touch? = none) {i : Nat} {a : Touch} (ha : touchAt (t ++ u) i = some a) : touchAt t i = some a := by
  obtain ⟨x, hx, hxa⟩ := touch_of ha
  rcases getElem?_append_cases hx with ⟨hi, hx'⟩ | ⟨_, hxu⟩
  · rw [touchAt_of hx']; exact hxa
  · rw [hn x hxu] at hxa; cases hxa
theorem old_counts {u : Trace} (hn : ∀ op ∈ u, op.act.touch? = none) {i : Nat} (hc : (t ++ u).counts i) : i < t.size ∧ t.counts i := by
  obtain ⟨x, hx, h2⟩ := hc
  have h1 := old_touch hn (i := i) hx
  obtain ⟨y, hy, _⟩ := touch_of h1
  have hi := lt_size_of_getElem? hy
  exact ⟨hi, (counts_old hi).1 ⟨x, hx, h2⟩⟩
theorem clean_mute {u : Trace} (h : ∀ said, ¬ Race said t) (hn : ∀ op ∈ u, op.act.touch? = none) (said : Bool) : ¬ Race said (t ++ u) := by
  rintro ⟨i, j, hij, ⟨a, b, ha, hb, hc⟩, n1, n2⟩
  have ha' := old_touch hn (i := i) ha
  have hb' := old_touch hn (i := j) hb
  exact h said ⟨i, j, hij, ⟨a, b, ha', hb', hc⟩, fun e => n1 (hb_app u e), fun e => n2 (hb_app u e)⟩
theorem Deaf_calm {u : Trace} (hd : ∀ op ∈ u, op.act ≠ .mark .disable ∧ op.act ≠ .mark .enable) (g : Nat) : Deaf (t ++ u) g = Deaf t g := by
  have : ∀ (l : List MemOp), (∀ op ∈ l, op.act ≠ .mark .disable ∧ op.act ≠ .mark .enable) → ∀ d, l.foldl (deafStep g) d = d := by
    intro l
    induction l with
    | nil => intro _ d; rfl
    | cons y l ih =>
      intro hl d
      have hy := hl y (by simp)
      have e : deafStep g d y = d := by
        unfold deafStep
        split <;> simp_all
      rw [List.foldl_cons, e]
      exact ih (fun op hop => hl op (by simp [hop])) d
  have e := Deaf_append t g u.toList
  simp only [Array.toArray_toList] at e
  rw [e, this u.toList (fun op hop => hd op (by simpa using hop))]

/-- A go statement: one more works; what it may read is what the first knows. -/
theorem TI.fork {k : Nat} {x y : MemOp} {B' : Nat → Prop} (h : TI A Pv B Shun N t) (hfresh : Deaf t k = 0) (hx : x.g = 0 ∧ x.act = .go k) (hy : y.g = k ∧ y.act = .start) (hPv : ∀ b, ¬ Pv k b)
    (hBB : (∀ k, ¬ A k) ∨ B' = B) (hBs : ∀ l b, blkOf l = some b → B' b → ¬ Shun l) (hPnB : ∀ k' b, A k' → Pv k' b → ¬ B' b) : TI (fun k' => A k' ∨ k' = k) Pv B' Shun N (t ++ #[x, y]) := by
  have hn : ∀ op ∈ #[x, y], op.act.touch? = none := fun op hop => by
    simp at hop
    rcases hop with rfl | rfl
    · rw [hx.2]; rfl
    · rw [hy.2]; rfl
  have hd : ∀ op ∈ #[x, y], op.act ≠ .mark .disable ∧ op.act ≠ .mark .enable := fun op hop => by
    simp at hop
    rcases hop with rfl | rfl
    · rw [hx.2]; simp
    · rw [hy.2]; simp
  have eB : ∀ k', A k' → B' = B := fun k' hk' => hBB.resolve_left fun h0 => h0 k' hk'
  refine ⟨clean_mute h.clean hn, fun i a ha hm => ?_, fun k1 hk1 i a ha hm b hb => ?_, fun i g hg h0 hc => ?_, by rw [Deaf_calm hd]; exact h.hears0, fun k1 hk1 => ?_, fun op hop => ?_⟩
  · rcases h.main i a (old_touch hn ha) hm with hk1 | hs | ⟨k1, b2, hAk, hg, hb2, hpv⟩
    · exact .inl (hk1.app _)
    · exact .inr (.inl hs)
    · exact .inr (.inr ⟨k1, b2, .inl hAk, g?_app hg, hb2, by rw [eB k1 hAk]; exact hpv⟩)
  · have ha' := old_touch hn ha
    rcases hk1 with hk1 | rfl
    · obtain ⟨h1, h2⟩ := h.wk k1 hk1 i a ha' hm b hb
      exact ⟨fun z => (h1 z).app _, fun z w => by rw [eB k1 hk1] at z; exact (h2 z w).app _⟩
    · refine ⟨fun z => absurd z (hPv b), fun z w => ?_⟩
      rcases h.main i a ha' hm with hk1 | hs | ⟨k2, b2, hAk, _, hb2, hpv⟩
      · exact ConcN.fork_knows hx hy h.hears0 hfresh hk1
      · exact absurd hs.1 (hBs _ b hb z)
      · rw [hb] at hb2
        obtain rfl := Option.some.inj hb2
        rcases hpv with hp | ⟨_, hw⟩
        · exact absurd z (hPnB k2 b hAk hp)
        · rw [hw] at w; cases w
  · obtain ⟨hi, hc'⟩ := old_counts hn hc
    rw [g?_old hi] at hg
    rcases h.over i g hg h0 hc' with ⟨j, hj, hb⟩ | hA
    · exact .inl ⟨j, g?_app hj, hb_app _ hb⟩
    · exact .inr (.inl hA)
  · rw [Deaf_calm hd]
    rcases hk1 with hk1 | rfl
    · exact h.hearsk k1 hk1
    · exact hfresh
  · rcases Array.mem_append.1 hop with ho | ho
    · exact h.seen op ho
    · simp at ho
      rcases ho with rfl | rfl
      · rw [hx.2]; trivial
      · rw [hy.2]; trivial

/-- What is sent is heard: all that the one who sends has done the first knows now. -/
theorem TI.meet {k c s cap : Nat} {x1 x2 x3 x4 : MemOp} (h : TI A Pv B Shun N t) (hk : A k) (h1 : x1.g = k ∧ x1.act = .send c s) (h2 : x2.g = 0 ∧ x2.act = .recv c s cap) (h3 : x3.g = k ∧ x3.act = .sendDone c s) (h4 : x4.g = 0 ∧ x4.act = .recvDone c s) (hcN : c < N) :
    TI (fun k' => A k' ∧ k' ≠ k) Pv B Shun N (t ++ #[x1, x2, x3, x4]) := by
  have hn : ∀ op ∈ #[x1, x2, x3, x4], op.act.touch? = none := fun op hop => by
    simp at hop
    rcases hop with rfl | rfl | rfl | rfl
    · rw [h1.2]; rfl
    · rw [h2.2]; rfl
    · rw [h3.2]; rfl
    · rw [h4.2]; rfl
  have hd : ∀ op ∈ #[x1, x2, x3, x4], op.act ≠ .mark .disable ∧ op.act ≠ .mark .enable := fun op hop => by
    simp at hop
    rcases hop with rfl | rfl | rfl | rfl
    · rw [h1.2]; simp
    · rw [h2.2]; simp
    · rw [h3.2]; simp
    · rw [h4.2]; simp
  have p1 : (t ++ #[x1, x2, x3, x4])[t.size]? = some x1 := by simp
  have p4 : (t ++ #[x1, x2, x3, x4])[t.size + 3]? = some x4 := by simp
  have heard1 : (t ++ #[x1, x2, x3, x4]).heard t.size := ⟨k, by simp [Trace.g?, h1.1], by rw [deaf_old (Nat.le_refl _)]; exact h.hearsk k hk⟩
  have heard4 : (t ++ #[x1, x2, x3, x4]).heard (t.size + 3) := by
    refine ⟨0, by simp [Trace.g?, h4.1], ?_⟩
    have e : t ++ #[x1, x2, x3, x4] = (t ++ #[x1, x2, x3]) ++ #[x4] := by apply Array.ext'; simp
    rw [e, deaf_old (by simp)]
    have := Deaf_calm (t := t) (u := #[x1, x2, x3]) (fun op hop => hd op (by simp at hop ⊢; rcases hop with rfl | rfl | rfl <;> simp)) 0
    have e2 : Deaf (t ++ #[x1, x2, x3]) 0 = (t ++ #[x1, x2, x3]).deaf 0 (t.size + 3) := by unfold Deaf; simp
    rw [← e2, this]
    exact h.hears0
  have edge : HappensBefore (t ++ #[x1, x2, x3, x4]) t.size (t.size + 3) := .single (.inr ⟨.handOver (c := c) (k := s) (by rw [act?_of p1, h1.2]) (by rw [act?_of p4, h4.2]), heard1, heard4⟩)
  have toMain : ∀ {i}, Knows t k i → Knows (t ++ #[x1, x2, x3, x4]) 0 i := fun {i} hki => ⟨t.size + 3, x4, p4, h4.1, .inr ((hki.hb_new (Nat.le_refl _) p1 h1.1).trans edge)⟩
  refine ⟨clean_mute h.clean hn, fun i a ha hm => ?_, fun k1 hk1 i a ha hm b hb => ?_, fun i g hg h0 hc => ?_, by rw [Deaf_calm hd]; exact h.hears0, fun k1 hk1 => by rw [Deaf_calm hd]; exact h.hearsk k1 hk1.1, fun op hop => ?_⟩
  · have ha' := old_touch hn ha
    rcases h.main i a ha' hm with hk1 | hs | ⟨k1, b2, hAk, hg, hb2, hpv⟩
    · exact .inl (hk1.app _)
    · exact .inr (.inl hs)
    · by_cases e : k1 = k
      · subst e
        obtain ⟨z, hz, _⟩ := touch_of ha'
        have := knows_own hz
        rw [show z.g = k1 by simpa [Trace.g?, hz] using hg] at this
        exact .inl (toMain this)
      · exact .inr (.inr ⟨k1, b2, ⟨hAk, e⟩, g?_app hg, hb2, hpv⟩)
  · obtain ⟨q1, q2⟩ := h.wk k1 hk1.1 i a (old_touch hn ha) hm b hb
    exact ⟨fun z => (q1 z).app _, fun z w => (q2 z w).app _⟩
  · obtain ⟨hi, hc'⟩ := old_counts hn hc
    rw [g?_old hi] at hg
    rcases h.over i g hg h0 hc' with ⟨j, hj, hb⟩ | hA
    · exact .inl ⟨j, g?_app hj, hb_app _ hb⟩
    · by_cases e : g = k
      · subst e
        unfold Trace.g? at hg
        obtain ⟨z, hz, hzg⟩ := Option.map_eq_some_iff.1 hg
        have hz' : (t ++ #[x1, x2, x3, x4])[i]? = some z := by rw [getElem?_append_old hi]; exact hz
        exact .inl ⟨t.size + 3, by simp [Trace.g?, h4.1], (hb_po hi hz' p1 (hzg.trans h1.1.symm)).trans edge⟩
      · exact .inr ⟨hA, e⟩
  · rcases Array.mem_append.1 hop with ho | ho
    · exact h.seen op ho
    · simp at ho
      rcases ho with rfl | rfl | rfl | rfl
      · rw [h1.2]; exact hcN
      · rw [h2.2]; exact hcN
      · rw [h3.2]; exact hcN
      · rw [h4.2]; exact hcN
end
end Go.Proofs.Ytcobehkadhcjiaa

/-
  THE CREW: the first, those that work beside it, those that leave: where each stands.
-/
namespace Go.Proofs.Ytcobehkadhcjiaa
open Go Go.Conc
variable [Shift]

/-! ### the measure -/
abbrev Em := Mt × Nat
abbrev Em.Lt : Em → Em → Prop := Prod.Lex (Relation.TransGen Mt.Lt) (· < ·)
omit [Shift] in
theorem em_wf : WellFounded Em.Lt := (Prod.lex ⟨_, mt_wf.transGen⟩ Nat.lt_wfRel).wf
inductive LL : List Em → List Em → Prop
  | head {a b : Em} {l : List Em} : Em.Lt a b → LL (a :: l) (b :: l)
  | tail {a : Em} {l l' : List Em} : LL l l' → LL (a :: l) (a :: l')
omit [Shift] in
theorem ll_acc : ∀ l, Acc LL l
  | [] => ⟨_, fun y h => by cases h⟩
  | a :: l => by
    have hl := ll_acc l
    have ha := em_wf.apply a
    induction ha generalizing l with
    | intro a _ iha =>
      induction hl with
      | intro l hl ihl =>
        refine ⟨_, fun y h => ?_⟩
        cases h with
        | head h => exact iha _ h _ ⟨_, hl⟩
        | tail h => exact ihl _ h
abbrev Mu := Em × List Em
abbrev Mu.Lt : Mu → Mu → Prop := Prod.Lex Em.Lt LL
omit [Shift] in
theorem mu_wf : WellFounded Mu.Lt := (Prod.lex ⟨_, em_wf⟩ ⟨_, ⟨ll_acc⟩⟩).wf

structure Wk where
  c : Nat
  spec : Spec
  r : BR
  w : World
  e : Em
def els (D : Nat → Wk) : Nat → List Em
  | 0 => []
  | n + 1 => (D n).e :: els D n
omit [Shift] in
theorem els_congr {D D' : Nat → Wk} : ∀ {n : Nat}, (∀ i, i < n → (D i).e = (D' i).e) → els D n = els D' n
  | 0, _ => rfl
  | n + 1, h => by simp only [els, h n (Nat.lt_succ_self n), els_congr fun i hi => h i (Nat.lt_succ_of_lt hi)]
omit [Shift] in
theorem els_lt {D : Nat → Wk} {x : Wk} {i : Nat} (hx : Em.Lt x.e (D i).e) : ∀ {n : Nat}, i < n → LL (els (ConcN.upd D i x) n) (els D n)
  | 0, h => absurd h (Nat.not_lt_zero i)
  | n + 1, h => by
    by_cases e : i = n
    · subst e
      have : els (ConcN.upd D i x) i = els D i := els_congr fun j hj => by rw [ConcN.upd_ne _ _ (by omega)]
      simp only [els, this, ConcN.upd_same]
      exact .head hx
    · simp only [els, ConcN.upd_ne D x (i := i) (a := n) (by omega)]
      exact .tail (els_lt hx (by omega))

/-! ### where each stands -/
section
variable (P : Program) (S V : FuncId → Bool)

/-- One that works: the first's world as it was when it was started (below s), and what it has made since. -/
inductive WAt (c s : Nat) (spec : Spec) (r : BR) (w w' : World) : Em → Goroutine → Prop
  | born {h : FuncId} {fn : Func} {code : Code} {xs xs' : Array Value} {m : Mt} : P.funcs[h]? = some fn → (fn.name == "runtime.NumGoroutine") = false → fn.body = some code → RR S r xs xs' →
      Im P S V (.wk c s spec) m ⟨none, none, []⟩ (bare h (xs ++ Array.replicate (fn.ntmps - xs.size) undef)) [] [.code code] [] w → WAt c s spec r w w' (m, 2) (born P (dcall h xs'))
  | runs {m : Mt} {fr : Frame} {ct : List Frame} {k : List Item} {g : Goroutine} : Im P S V (.wk c s spec) m ⟨none, none, []⟩ fr ct k [] w →
      Sit P S V (botK .deferred (by decide) k) [botF P] r fr ct [] w g w' → WAt c s spec r w w' (m, 1) g
  | waits {m : Mt} {g0 : Goroutine} {vs : Array Value} {v' z : Value} {x : Nat} : spec w (.agg vs) → Nwv s (.agg vs) → VR S r (.agg vs) v' → QuitsIn P x (Go.Conc.served g0 undef) → WAt c s spec r w w' (m, 0) (parked g0 #[scase c v' z] .send)

/-- What becomes of the first when it hears what was sent. -/
def Meets (post : Value → World → Prop) (m : Mt) (r : BR) (w : World) (g0 : Goroutine) (w0 : World) (idle : Option Nat) (spec : Spec) (l : List (Nat × Spec)) : Prop :=
  ∀ (r1 : BR) (w1 : World) (v1 v' : Value) (w2' : World), (∀ a b, r a b → r1 a b) → w.heap.size ≤ w1.heap.size → (∀ a, a < w.heap.size → w1.heap[a]? = w.heap[a]?) → w1.os = w.os → w1.output = w.output → spec w1 v1 ∧ Nwv w.heap.size v1 → VR S r1 v1 v' →
    HR0 S r1 (match l with | [] => thaw w0 w1 | _ => w1) w2' →
    ∃ m1 fr ct k cs, Relation.TransGen Mt.Lt m1 m ∧ Im P S V (.main post) m1 ⟨match l with | [] => none | _ => some w0, idle, l⟩ fr ct k cs (match l with | [] => thaw w0 w1 | _ => w1) ∧
      Sit P S V (botK .normal (by decide) k) [] r1 fr ct cs (match l with | [] => thaw w0 w1 | _ => w1) (Go.Conc.served g0 v') w2'

inductive MAt (post : Value → World → Prop) (r : BR) (w w' : World) : Sg → Em → Goroutine → Prop
  | runs {σ : Sg} {m : Mt} {fr : Frame} {ct cs : List Frame} {k : List Item} {a : Goroutine} : Im P S V (.main post) m σ fr ct k cs w → Sit P S V (botK .normal (by decide) k) [] r fr ct cs w a w' → MAt post r w w' σ (m, 1) a
  | waits {m : Mt} {g0 : Goroutine} {z : Value} {c : Nat} {spec : Spec} {w0 : World} {idle : Option Nat} {l : List (Nat × Spec)} : Meets P S V post m r w g0 w0 idle spec l → MAt post r w w' ⟨some w0, idle, (c, spec) :: l⟩ (m, 0) (parked g0 #[rcase c z] (.recv false))

/-- As long as some work: w0 is the first's world when they were started, rf what of it lies where. -/
structure Phase (w0 : World) (rf r : BR) (w w' : World) (n q : Nat) (D : Nat → Wk) (Pv : Nat → Nat → Prop) : Prop where
  hr : HR0 S rf w0 w'
  sub : ∀ a b, rf a b → r a b
  old : ∀ a b, r a b → a < w0.heap.size → rf a b
  le : w0.heap.size ≤ w.heap.size
  fro : ∀ a o, a < w0.heap.size → ¬ Wr w a o
  same : ∀ a c e f, a < w0.heap.size → w.heap[a]? = some (.cells c e f) → ∃ c0 f0, w0.heap[a]? = some (.cells c0 e f0) ∧ c0.size = c.size
  wsub : ∀ i, q ≤ i → i < n → ∀ a b, rf a b → (D i).r a b
  wold : ∀ i, q ≤ i → i < n → ∀ a b, (D i).r a b → a < w0.heap.size → rf a b
  wle : ∀ i, q ≤ i → i < n → w0.heap.size ≤ (D i).w.heap.size
  wfro : ∀ i, q ≤ i → i < n → ∀ a o, a < w0.heap.size → ¬ Wr (D i).w a o
  priv : ∀ i, q ≤ i → i < n → ∀ a b, (D i).r a b → w0.heap.size ≤ a → Pv (i + 1) b
  pvr : ∀ i, q ≤ i → i < n → ∀ a b, Pv (i + 1) b → ¬ r a b

/-- Channels that are of use yet. -/
def Live (σ : Sg) (n q : Nat) (D : Nat → Wk) (c : Nat) : Prop := σ.idle = some c ∨ ∃ i, q ≤ i ∧ i < n ∧ (D i).c = c

structure Crew (post : Value → World → Prop) (N0 : Nat) (W0 : World) (μ : Mu) (gs : Array Goroutine) (w' : World) (t : Trace) (n q : Nat) (D : Nat → Wk) (Pv : Nat → Nat → Prop) (rf : BR) (σ : Sg) (r : BR) (w : World) (a : Goroutine) : Prop where
  size : gs.size = n + 1
  list : σ.l.length + q = n
  at_ : ∀ i, q ≤ i → i < n → σ.l[i - q]? = some ((D i).c, (D i).spec) ∧ Moves (D i).spec
  zero : gs[0]? = some a
  main : MAt P S V post r w w' σ μ.1 a
  hr : HR0 S r w w'
  gone : ∀ i, i < q → ∃ g, gs[i + 1]? = some g ∧ (D i).e.1 = .leaf ∧ QuitsIn P (D i).e.2 g
  work : ∀ i, q ≤ i → i < n → HR0 S (D i).r (D i).w w' ∧ ∃ g, gs[i + 1]? = some g ∧ WAt P S V (D i).c ((σ.ph.map fun w0 => w0.heap.size).getD 0) (D i).spec (D i).r (D i).w w' (D i).e g
  up : ¬ (μ.1.2 = 0 ∧ (D q).e.2 = 0)
  off : σ.ph = none → σ.l = []
  phase : ∀ w0, σ.ph = some w0 → Phase S w0 rf r w w' n q D Pv
  chan : ∀ c, Live σ n q D c → w'.heap[c]? = some (.chan 0 #[] false 0 0 false) ∧ N0 ≤ c ∧ (∀ x, ¬ r x c) ∧ (∀ i, q ≤ i → i < n → (∀ x, ¬ (D i).r x c) ∧ ¬ Pv (i + 1) c)
  apart : ∀ i j, q ≤ i → i < n → q ≤ j → j < n → (D i).c = (D j).c → i = j
  idle : ∀ i, q ≤ i → i < n → σ.idle ≠ some (D i).c
  pv : ∀ i, q ≤ i → i < n → ∀ b, Pv (i + 1) b → b < w'.heap.size ∧ N0 ≤ b
  pvp : ∀ i j, q ≤ i → i < n → q ≤ j → j < n → ∀ b, Pv (i + 1) b → Pv (j + 1) b → i = j
  base : ∀ b, b < N0 → w'.heap[b]? = W0.heap[b]?
  low : ∀ x b, r x b → b < N0 → x < Shift.n
  n0 : N0 ≤ w'.heap.size
  os : w'.os = W0.os
  output : w'.output = W0.output
  ti : TI (fun k => q < k ∧ k ≤ n) Pv (fun b => σ.ph ≠ none ∧ ∃ a, rf a b) (fun _ => False) w'.heap.size t
  deaf : ∀ g, Deaf t g = 0
  mu : μ.2 = els D n
end
end Go.Proofs.Ytcobehkadhcjiaa

/-
  THE CREW: what stays while another takes a step.
-/
namespace Go.Proofs.Ytcobehkadhcjiaa
open Go Go.Conc
variable [Shift]

/-- A world turned somewhere else. -/
theorem HR0.else_ {S : FuncId → Bool} {r : BR} {w w' w2 : World} (h : HR0 S r w w') {X : Nat → Prop} (hk : ∀ b, b < w'.heap.size → ¬ X b → w2.heap[b]? = w'.heap[b]?) (hx : ∀ a b, r a b → ¬ X b) : HR0 S r w w2 :=
  h.keep fun a b hab => .inl (hk b (by
    obtain ⟨_, _, _, h2, _⟩ := h.obj hab
    exact (Array.getElem?_eq_some_iff.1 h2).1) (hx a b hab))
/-- What came in may not be written. -/
theorem HR0.nwr {S : FuncId → Bool} {r : BR} {w w' : World} (h : HR0 S r w w') {a b : Nat} (hab : r a b) (ha : a < Shift.n) (o : Nat) : ¬ Wr w a o := by
  obtain ⟨_, _, h1, _, h3⟩ := h.obj hab
  rintro ⟨c, e, f, q1, q2, q3⟩
  rw [h1] at q1
  cases q1
  cases h3 with
  | cells _ hn _ _ => omega
  | win _ _ _ hz _ => exact q3 (hz o (by omega))

section
variable {P : Program} {S V : FuncId → Bool}
theorem Sit.else_ {b : Bot} {bs : List Frame} {r : BR} {fr : Frame} {ct cs : List Frame} {w w' w2 : World} {a : Goroutine} (h : Sit P S V b bs r fr ct cs w a w') (hr : HR0 S r w w2) : Sit P S V b bs r fr ct cs w a w2 := ⟨h.at_, hr⟩
theorem WAt.else_ {c s : Nat} {spec : Spec} {r : BR} {w w' w2 : World} {e : Em} {g : Goroutine} (h : WAt P S V c s spec r w w' e g) (hr : HR0 S r w w2) : WAt P S V c s spec r w w2 e g := by
  cases h with
  | born h1 h2 h3 h4 h5 => exact .born h1 h2 h3 h4 h5
  | runs h1 h2 => exact .runs h1 (h2.else_ hr)
  | waits h1 h2 h3 h4 => exact .waits h1 h2 h3 h4
theorem MAt.else_ {post : Value → World → Prop} {r : BR} {w w' w2 : World} {σ : Sg} {e : Em} {g : Goroutine} (h : MAt P S V post r w w' σ e g) (hr : HR0 S r w w2) : MAt P S V post r w w2 σ e g := by
  cases h with
  | runs h1 h2 => exact .runs h1 (h2.else_ hr)
  | waits h1 => exact .waits h1

omit [Shift] in
theorem woken_run {a a' g : Goroutine} {w : World} (h : g.status = .running ∨ g.status = .finished) : woken P a a' w g = g := by
  unfold woken
  split
  · exact again_running _ h
  · rfl
theorem WAt.woken {c s : Nat} {spec : Spec} {r : BR} {w w' w2 : World} {e : Em} {g a a' : Goroutine} (h : WAt P S V c s spec r w w' e g) (hc : ∃ x y, w2.heap[c]? = some (.chan 0 #[] false x y false)) : woken P a a' w2 g = g := by
  obtain ⟨x, y, hc⟩ := hc
  cases h with
  | born h1 h2 h3 h4 h5 => exact woken_run (.inl rfl)
  | runs h1 h2 => exact woken_run (.inl h2.running)
  | waits h1 h2 h3 h4 => exact woken_send_open _ _ hc
theorem MAt.woken {post : Value → World → Prop} {r : BR} {w w' w2 : World} {σ : Sg} {e : Em} {g a a' : Goroutine} (h : MAt P S V post r w w' σ e g) (hc : ∀ c spec l, σ.l = (c, spec) :: l → ∃ x y, w2.heap[c]? = some (.chan 0 #[] false x y false)) : woken P a a' w2 g = g := by
  cases h with
  | runs h1 h2 => exact woken_run (.inl h2.running)
  | waits h1 =>
    obtain ⟨x, y, hc⟩ := hc _ _ _ rfl
    exact woken_recv_open _ _ hc

/-! ### what is listed -/
omit [Shift] in
theorem act_of {r1 : BR} {w : World} {g : Nat} {fn : FuncId} {pos : String} {es : Array Event} (h : ∀ e ∈ es, EvS r1 w e) {op : MemOp} (hop : op ∈ MemOp.ofEvents g fn pos es) :
    op.g = g ∧ (op.act ≠ .mark .disable ∧ op.act ≠ .mark .enable) ∧ (∀ x, op.act.touch? = some x → x.kind = .plain ∧ ∃ a b, r1 a b ∧ blkOf x.loc = some b ∧ (x.write = true → a < w.heap.size → ∃ o, Wr w a o)) ∧ ∀ N, (∀ a b, r1 a b → b < N) → op.act.low N := by
  obtain ⟨e, he, rfl⟩ := Go.Conc.mem_ofEvents hop
  obtain ⟨h1, h2⟩ := h e he
  refine ⟨rfl, ?_⟩
  rcases h1 with ⟨ad, wr, rfl, a, ha, hb⟩ | ⟨b, rfl, a, ha, hb⟩ | rfl | ⟨f, rfl⟩
  · refine ⟨by simp [MemAct.ofEvent], fun x hx => ?_, fun N hN => hN _ _ ha⟩
    cases hx
    exact ⟨rfl, a, _, ha, rfl, fun w1 w2 => ⟨_, (hb w2).2 w1⟩⟩
  · refine ⟨by simp [MemAct.ofEvent], fun x hx => ?_, fun N hN => hN _ _ ha⟩
    cases hx
    exact ⟨rfl, a, _, ha, rfl, fun w1 _ => by cases w1⟩
  · exact ⟨by simp [MemAct.ofEvent], fun x hx => (by cases hx), fun N _ => trivial⟩
  · exact absurd rfl (h2 f)
end
end Go.Proofs.Ytcobehkadhcjiaa

/-
  THE CREW: a step of one that works.
-/
namespace Go.Proofs.Ytcobehkadhcjiaa
open Go Go.Conc
variable [Shift]

section
variable {P : Program} {S V : FuncId → Bool} {post : Value → World → Prop} {N0 : Nat} {W0 : World} {μ : Mu} {gs : Array Goroutine} {w' : World} {t : Trace} {n q : Nat} {D : Nat → Wk} {Pv : Nat → Nat → Prop} {rf : BR} {σ : Sg} {r : BR} {w : World} {a : Goroutine}

abbrev szp (σ : Sg) : Nat := (σ.ph.map fun w0 => w0.heap.size).getD 0

theorem Crew.qn (h : Crew P S V post N0 W0 μ gs w' t n q D Pv rf σ r w a) : q ≤ n := by have := h.list; omega
theorem Crew.ph_some (h : Crew P S V post N0 W0 μ gs w' t n q D Pv rf σ r w a) {i : Nat} (hq : q ≤ i) (hi : i < n) : ∃ w0, σ.ph = some w0 := by
  cases hp : σ.ph with
  | none =>
    have h1 := h.off hp
    have h2 := h.list
    rw [h1] at h2
    simp at h2
    omega
  | some w0 => exact ⟨w0, rfl⟩
theorem Crew.head (h : Crew P S V post N0 W0 μ gs w' t n q D Pv rf σ r w a) {c : Nat} {spec : Spec} {l : List (Nat × Spec)} (hl : σ.l = (c, spec) :: l) : q < n ∧ (D q).c = c ∧ (D q).spec = spec := by
  have h1 := h.list
  rw [hl] at h1
  have hq : q < n := by simp at h1; omega
  have h2 := (h.at_ q (Nat.le_refl q) hq).1
  rw [hl, Nat.sub_self] at h2
  simp only [List.getElem?_cons_zero, Option.some.injEq, Prod.mk.injEq] at h2
  exact ⟨hq, h2.1.symm, h2.2.symm⟩
/-- Nobody is woken. -/
theorem Crew.woken (h : Crew P S V post N0 W0 μ gs w' t n q D Pv rf σ r w a) {w2 : World} (hc : ∀ c, Live σ n q D c → ∃ x y, w2.heap[c]? = some (.chan 0 #[] false x y false)) (g g1 : Goroutine) : gs.map (woken P g g1 w2) = gs := by
  apply Array.ext_getElem?
  intro j
  rw [Array.getElem?_map]
  cases hj : gs[j]? with
  | none => rfl
  | some x =>
    rw [Option.map_some]
    congr 1
    have hjn : j < n + 1 := by have := (Array.getElem?_eq_some_iff.1 hj).1; have := h.size; omega
    cases j with
    | zero =>
      rw [h.zero] at hj
      cases hj
      exact h.main.woken fun c spec l hl => by
        obtain ⟨k1, k2, _⟩ := h.head hl
        exact hc c (.inr ⟨q, Nat.le_refl q, k1, k2⟩)
    | succ i =>
      by_cases hi : i < q
      · obtain ⟨g2, h1, _, h2⟩ := h.gone i hi
        rw [h1] at hj
        cases hj
        exact woken_run h2.status
      · obtain ⟨_, g2, h1, h2⟩ := h.work i (by omega) (by omega)
        rw [h1] at hj
        cases hj
        exact h2.woken (hc _ (.inr ⟨i, by omega, by omega, rfl⟩))
omit [Shift] in
theorem get_set_ne {gs : Array Goroutine} {i j : Nat} (x : Goroutine) (h : i ≠ j) : (gs.setIfInBounds i x)[j]? = gs[j]? := Array.getElem?_setIfInBounds_ne h
omit [Shift] in
theorem get_set_eq {gs : Array Goroutine} {i : Nat} (x : Goroutine) (h : i < gs.size) : (gs.setIfInBounds i x)[i]? = some x := Array.getElem?_setIfInBounds_self_of_lt h

/-- A step of one that works. -/
theorem Crew.stepW (h : Crew P S V post N0 W0 μ gs w' t n q D Pv rf σ r w a) {i : Nat} (hq : q ≤ i) (hi : i < n) {g g1 : Goroutine} {es : Array Event} {r1 : BR} {w1 w2' : World} {e1 : Em} (hg : gs[i + 1]? = some g)
    (hgo : stepG P false g w' = .go g1 w2' es) (hF : FR (D i).r r1 (D i).w w' w2') (hL : LF (D i).w w1) (hev : ∀ e ∈ es, EvS r1 (D i).w e) (hr1 : HR0 S r1 w1 w2')
    (hA : WAt P S V (D i).c (szp σ) (D i).spec r1 w1 w2' e1 g1) (hlt : Em.Lt e1 (D i).e) (he : e1.2 ≠ 0) (sl : Option (Nat × Nat)) :
    ∃ gs' μ' D' Pv' ops, runT P (crowd gs w' sl) (i + 1) = (.next (crowd gs' w2' sl), ops) ∧ Mu.Lt μ' μ ∧ Crew P S V post N0 W0 μ' gs' w2' (t ++ ops) n q D' Pv' rf σ r w a := by
  obtain ⟨w0, hw0⟩ := h.ph_some hq hi
  have ph := h.phase w0 hw0
  have hsz : szp σ = w0.heap.size := by simp [szp, hw0]
  -- what is turned
  have priv : ∀ b, ¬ Pv (i + 1) b → ∀ x o, (D i).r x b → ¬ Wr (D i).w x o := fun b hb x o hx => by
    by_cases hs : x < w0.heap.size
    · exact ph.wfro i hq hi x o hs
    · exact absurd (ph.priv i hq hi x b hx (by omega)) hb
  have stays : ∀ b, b < w'.heap.size → ¬ Pv (i + 1) b → w2'.heap[b]? = w'.heap[b]? := fun b hb hp => hF.old b hb (priv b hp)
  have chans : ∀ c, Live σ n q D c → w2'.heap[c]? = w'.heap[c]? := fun c hc => by
    obtain ⟨k1, _, _, k3⟩ := h.chan c hc
    exact stays c (Array.getElem?_eq_some_iff.1 k1).1 (k3 i hq hi).2
  have newr : ∀ x b, r1 x b → (D i).r x b ∨ (w'.heap.size ≤ b ∧ b < w2'.heap.size ∧ (D i).w.heap.size ≤ x) := hF.new
  have blow : ∀ {x b}, r x b → b < w'.heap.size := fun hx => (h.hr.lt hx).2
  have dlow : ∀ {j x b}, q ≤ j → j < n → (D j).r x b → b < w'.heap.size := fun hj1 hj2 hx => ((h.work _ hj1 hj2).1.lt hx).2
  have dne : ∀ j, q ≤ j → j < n → j ≠ i → ∀ x b, (D j).r x b → ¬ Pv (i + 1) b := fun j hj1 hj2 hji x b hx hp => by
    by_cases hs : x < w0.heap.size
    · exact ph.pvr i hq hi x b hp (ph.sub _ _ (ph.wold j hj1 hj2 x b hx hs))
    · exact hji (h.pvp j i hj1 hj2 hq hi b (ph.priv j hj1 hj2 x b hx (by omega)) hp)
  have hsz1 := hF.size
  -- the machine's step
  have hrun := runT_crowd_go (P := P) (sl := sl) (i := i + 1) hg (by simpa using hgo)
  rw [h.woken fun c hc => by rw [chans c hc]; exact ⟨_, _, (h.chan c hc).1⟩] at hrun
  have his : i + 1 < gs.size := by have := h.size; omega
  have hrm : HR0 S r w w2' := h.hr.else_ stays fun x b hx hp => ph.pvr i hq hi x b hp hx
  have hact : ∀ op ∈ MemOp.ofEvents (i + 1) g.frame.fn g.frame.place es, _ := fun op hop => act_of hev hop
  have hti := h.ti
  refine ⟨_, (μ.1, els (ConcN.upd D i ⟨(D i).c, (D i).spec, r1, w1, e1⟩) n), ConcN.upd D i ⟨(D i).c, (D i).spec, r1, w1, e1⟩, fun k b => Pv k b ∨ (k = i + 1 ∧ w'.heap.size ≤ b ∧ b < w2'.heap.size), _, hrun, ?_, ?_⟩
  · obtain ⟨m0, l0⟩ := μ
    have := h.mu
    simp only at this
    subst this
    exact .right _ (els_lt (x := ⟨(D i).c, (D i).spec, r1, w1, e1⟩) hlt hi)
  have updc : ∀ j, (ConcN.upd D i ⟨(D i).c, (D i).spec, r1, w1, e1⟩ j).c = (D j).c := fun j => by
    by_cases e : j = i
    · subst e; rw [ConcN.upd_same]
    · rw [ConcN.upd_ne _ _ e]
  have upds : ∀ j, (ConcN.upd D i ⟨(D i).c, (D i).spec, r1, w1, e1⟩ j).spec = (D j).spec := fun j => by
    by_cases e : j = i
    · subst e; rw [ConcN.upd_same]
    · rw [ConcN.upd_ne _ _ e]
  have live : ∀ c, Live σ n q (ConcN.upd D i ⟨(D i).c, (D i).spec, r1, w1, e1⟩) c → Live σ n q D c := fun c hc => by
    rcases hc with hc | ⟨j, k1, k2, k3⟩
    · exact .inl hc
    · exact .inr ⟨j, k1, k2, by rw [← updc]; exact k3⟩
  refine {
    size := (by simp [h.size]), list := h.list, at_ := fun j h1 h2 => (by rw [updc, upds]; exact h.at_ j h1 h2), zero := (by rw [get_set_ne _ (by omega)]; exact h.zero), main := h.main.else_ hrm, hr := hrm,
    gone := fun j hj => ?gone, work := fun j h1 h2 => ?work, up := fun ⟨e0, e2⟩ => ?up, off := h.off, phase := fun w0' hw0' => ?phase, chan := fun c hc => ?chan, apart := fun j k h1 h2 h3 h4 e => ?apart, idle := fun j h1 h2 => (by rw [updc]; exact h.idle j h1 h2),
    pv := fun j h1 h2 b hb => ?pv, pvp := fun j k h1 h2 h3 h4 b hb hb' => ?pvp, base := fun b hb => ?base, low := h.low, n0 := Nat.le_trans h.n0 hsz1, os := hF.os.trans h.os, output := hF.output.trans h.output, ti := ?ti, deaf := fun g' => by rw [Deaf_calm (fun op hop => (hact op hop).2.1)]; exact h.deaf g', mu := rfl }
  case gone =>
    obtain ⟨g2, k1, k2, k3⟩ := h.gone j hj
    exact ⟨g2, by rw [get_set_ne _ (by omega)]; exact k1, by rw [ConcN.upd_ne _ _ (by omega)]; exact k2, by rw [ConcN.upd_ne _ _ (by omega)]; exact k3⟩
  case work =>
    by_cases e : j = i
    · subst e
      rw [ConcN.upd_same]
      exact ⟨hr1, g1, get_set_eq _ his, hA⟩
    · rw [ConcN.upd_ne _ _ e]
      obtain ⟨k0, g2, k1, k2⟩ := h.work j h1 h2
      have hrj := k0.else_ stays (dne j h1 h2 e)
      exact ⟨hrj, g2, by rw [get_set_ne _ (by omega)]; exact k1, k2.else_ hrj⟩
  case up =>
    by_cases e : q = i
    · subst e
      rw [ConcN.upd_same] at e2
      exact he e2
    · rw [ConcN.upd_ne _ _ e] at e2
      exact h.up ⟨e0, e2⟩
  case phase =>
    obtain rfl : w0 = w0' := by rw [hw0] at hw0'; exact Option.some.inj hw0'
    refine {
      hr := ph.hr.else_ stays fun x b hx hp => ph.pvr i hq hi x b hp (ph.sub _ _ hx), sub := ph.sub, old := ph.old, le := ph.le, fro := ph.fro, same := ph.same, wsub := fun j h1 h2 x b hx => ?_, wold := fun j h1 h2 x b hx hs => ?_, wle := fun j h1 h2 => ?_,
      wfro := fun j h1 h2 x o hs => ?_, priv := fun j h1 h2 x b hx hs => ?_, pvr := fun j h1 h2 x b hp hx => ?_ }
    · by_cases e : j = i
      · subst e; rw [ConcN.upd_same]; exact hF.ext _ _ (ph.wsub j h1 h2 x b hx)
      · rw [ConcN.upd_ne _ _ e]; exact ph.wsub j h1 h2 x b hx
    · by_cases e : j = i
      · subst e
        rw [ConcN.upd_same] at hx
        rcases newr x b hx with k | ⟨_, _, k⟩
        · exact ph.wold j h1 h2 x b k hs
        · have := ph.wle j h1 h2; omega
      · rw [ConcN.upd_ne _ _ e] at hx; exact ph.wold j h1 h2 x b hx hs
    · by_cases e : j = i
      · subst e; rw [ConcN.upd_same]; exact Nat.le_trans (ph.wle j h1 h2) hL.size
      · rw [ConcN.upd_ne _ _ e]; exact ph.wle j h1 h2
    · by_cases e : j = i
      · subst e
        rw [ConcN.upd_same]
        rintro ⟨c, ty, f, k1, k2, k3⟩
        have hx : x < (D j).w.heap.size := Nat.lt_of_lt_of_le hs (ph.wle j h1 h2)
        obtain ⟨c0, k4, k5⟩ := hL.obj x c ty f hx k1
        exact ph.wfro j h1 h2 x o hs ⟨c0, ty, f, k4, by omega, k3⟩
      · rw [ConcN.upd_ne _ _ e]; exact ph.wfro j h1 h2 x o hs
    · by_cases e : j = i
      · subst e
        rw [ConcN.upd_same] at hx
        rcases newr x b hx with k | ⟨k1, k2, _⟩
        · exact .inl (ph.priv j h1 h2 x b k hs)
        · exact .inr ⟨rfl, k1, k2⟩
      · rw [ConcN.upd_ne _ _ e] at hx; exact .inl (ph.priv j h1 h2 x b hx hs)
    · rcases hp with hp | ⟨_, k1, _⟩
      · exact ph.pvr j h1 h2 x b hp hx
      · have := blow hx; omega
  case chan =>
    obtain ⟨k1, k2, k3, k4⟩ := h.chan c (live c hc)
    have hcn : c < w'.heap.size := (Array.getElem?_eq_some_iff.1 k1).1
    refine ⟨by rw [chans c (live c hc)]; exact k1, k2, k3, fun j h1 h2 => ⟨fun x hx => ?_, fun hp => ?_⟩⟩
    · by_cases e : j = i
      · subst e
        rw [ConcN.upd_same] at hx
        rcases newr x c hx with k | ⟨k, _, _⟩
        · exact (k4 j h1 h2).1 x k
        · omega
      · rw [ConcN.upd_ne _ _ e] at hx; exact (k4 j h1 h2).1 x hx
    · rcases hp with hp | ⟨_, k, _⟩
      · exact (k4 j h1 h2).2 hp
      · omega
  case apart =>
    rw [updc, updc] at e
    exact h.apart j k h1 h2 h3 h4 e
  case pv =>
    rcases hb with hb | ⟨_, k1, k2⟩
    · obtain ⟨k1, k2⟩ := h.pv j h1 h2 b hb
      exact ⟨Nat.lt_of_lt_of_le k1 hsz1, k2⟩
    · exact ⟨k2, Nat.le_trans h.n0 k1⟩
  case pvp =>
    rcases hb with hb | ⟨e1, k1, _⟩ <;> rcases hb' with hb' | ⟨e2, k2, _⟩
    · exact h.pvp j k h1 h2 h3 h4 b hb hb'
    · have := (h.pv j h1 h2 b hb).1; omega
    · have := (h.pv k h3 h4 b hb').1; omega
    · omega
  case base =>
    rw [stays b (Nat.lt_of_lt_of_le hb h.n0) fun hp => by have := (h.pv i hq hi b hp).2; omega]
    exact h.base b hb
  case ti =>
    refine hti.ownk hsz1 (k := i + 1) ⟨by omega, by omega⟩ (by omega) (fun k b hk hp => ?_) (fun b hb => ?_) (fun k k' b hk hk' hp hp' => ?_) (fun k b hk hp hb => ?_) (fun op hop => (hact op hop).1) (fun op hop x hx hmem => ?_) (fun op hop => (hact op hop).2.1) (fun op hop => (hact op hop).2.2.2 _ fun x b hx => ?_)
    · obtain ⟨j, rfl⟩ : ∃ j, k = j + 1 := ⟨k - 1, by omega⟩
      exact (h.pv j (by omega) (by omega) b hp).1
    · obtain ⟨_, x, hx⟩ := hb
      exact (ph.hr.lt hx).2
    · obtain ⟨j, rfl⟩ : ∃ j, k = j + 1 := ⟨k - 1, by omega⟩
      obtain ⟨j', rfl⟩ : ∃ j, k' = j + 1 := ⟨k' - 1, by omega⟩
      have := h.pvp j j' (by omega) (by omega) (by omega) (by omega) b hp hp'
      omega
    · obtain ⟨j, rfl⟩ : ∃ j, k = j + 1 := ⟨k - 1, by omega⟩
      obtain ⟨_, x, hx⟩ := hb
      exact ph.pvr j (by omega) (by omega) x b hp (ph.sub _ _ hx)
    · obtain ⟨kp, x0, b, hb, hbk, hwr⟩ := (hact op hop).2.2.1 x hx
      refine ⟨b, hbk, ?_, fun _ => id⟩
      rcases newr x0 b hb with k | ⟨k1, k2, _⟩
      · right
        by_cases hs : x0 < w0.heap.size
        · right
          refine ⟨⟨by rw [hw0]; simp, x0, ph.wold i hq hi x0 b k hs⟩, ?_⟩
          cases hw : x.write with
          | false => rfl
          | true =>
            obtain ⟨o, ho⟩ := hwr hw (Nat.lt_of_lt_of_le hs (ph.wle i hq hi))
            exact absurd ho (ph.wfro i hq hi x0 o hs)
        · exact .inl (ph.priv i hq hi x0 b k (by omega))
      · exact .inl ⟨k1, k2⟩
    · exact (hr1.lt hx).2
end
end Go.Proofs.Ytcobehkadhcjiaa

/-
  THE CREW: a step of the first's own.
-/
namespace Go.Proofs.Ytcobehkadhcjiaa
open Go Go.Conc
variable [Shift]

section
variable {P : Program} {S V : FuncId → Bool} {post : Value → World → Prop} {N0 : Nat} {W0 : World} {μ : Mu} {gs : Array Goroutine} {w' : World} {t : Trace} {n q : Nat} {D : Nat → Wk} {Pv : Nat → Nat → Prop} {rf : BR} {σ : Sg} {r : BR} {w : World} {a : Goroutine}

/-- What the first may write is nobody else's. -/
theorem Crew.mine (h : Crew P S V post N0 W0 μ gs w' t n q D Pv rf σ r w a) {x b o : Nat} (hx : r x b) (hw : Wr w x o) :
    N0 ≤ b ∧ (∀ w0, σ.ph = some w0 → ∀ z, ¬ rf z b) ∧ (∀ i, q ≤ i → i < n → ∀ z, ¬ (D i).r z b) := by
  have hf : ∀ w0, σ.ph = some w0 → ∀ z, ¬ rf z b := fun w0 hw0 z hz => by
    have ph := h.phase w0 hw0
    rcases h.hr.inj hx (ph.sub _ _ hz) with rfl | ⟨k, _⟩
    · exact ph.fro _ o (ph.hr.lt hz).1 hw
    · exact h.hr.nwr hx k o hw
  refine ⟨?_, hf, fun i hq hi z hz => ?_⟩
  · by_cases hb : N0 ≤ b
    · exact hb
    · exact absurd hw (h.hr.nwr hx (h.low x b hx (by omega)) o)
  · obtain ⟨w0, hw0⟩ := h.ph_some hq hi
    have ph := h.phase w0 hw0
    by_cases hs : z < w0.heap.size
    · exact hf w0 hw0 z (ph.wold i hq hi z b hz hs)
    · exact ph.pvr i hq hi x b (ph.priv i hq hi z b hz (by omega)) hx

theorem Crew.stepM (h : Crew P S V post N0 W0 μ gs w' t n q D Pv rf σ r w a) {a1 : Goroutine} {es : Array Event} {r1 : BR} {w1 w2' : World} {e1 : Em}
    (hgo : stepG P true a w' = .go a1 w2' es) (hF : FR r r1 w w' w2') (hL : LF w w1) (hev : ∀ e ∈ es, EvS r1 w e) (hr1 : HR0 S r1 w1 w2')
    (hA : MAt P S V post r1 w1 w2' σ e1 a1) (hlt : Em.Lt e1 μ.1) (he : e1.2 ≠ 0) (sl : Option (Nat × Nat)) :
    ∃ gs' μ' ops, runT P (crowd gs w' sl) 0 = (.next (crowd gs' w2' sl), ops) ∧ Mu.Lt μ' μ ∧ Crew P S V post N0 W0 μ' gs' w2' (t ++ ops) n q D Pv rf σ r1 w1 a1 := by
  have stays : ∀ b, b < w'.heap.size → ¬ (∃ x o, r x b ∧ Wr w x o) → w2'.heap[b]? = w'.heap[b]? := fun b hb hp => hF.old b hb fun x o hx hw => hp ⟨x, o, hx, hw⟩
  have chans : ∀ c, Live σ n q D c → w2'.heap[c]? = w'.heap[c]? := fun c hc => by
    obtain ⟨k1, _, k2, _⟩ := h.chan c hc
    exact stays c (Array.getElem?_eq_some_iff.1 k1).1 fun ⟨x, _, hx, _⟩ => k2 x hx
  have newr : ∀ x b, r1 x b → r x b ∨ (w'.heap.size ≤ b ∧ b < w2'.heap.size ∧ w.heap.size ≤ x) := hF.new
  have hsz1 := hF.size
  have hrun := runT_crowd_go (P := P) (sl := sl) (i := 0) h.zero (by simpa using hgo)
  rw [h.woken fun c hc => by rw [chans c hc]; exact ⟨_, _, (h.chan c hc).1⟩] at hrun
  have his : 0 < gs.size := by have := h.size; omega
  have hact : ∀ op ∈ MemOp.ofEvents 0 a.frame.fn a.frame.place es, _ := fun op hop => act_of hev hop
  have hti := h.ti
  have dst : ∀ i, q ≤ i → i < n → ∀ x b, (D i).r x b → ¬ ∃ y o, r y b ∧ Wr w y o := fun i hq hi x b hx ⟨y, o, hy, hw⟩ => (h.mine hy hw).2.2 i hq hi x hx
  refine ⟨_, (e1, μ.2), _, hrun, ?_, ?_⟩
  · obtain ⟨m0, l0⟩ := μ
    exact .left _ _ hlt
  refine {
    size := (by simp [h.size]), list := h.list, at_ := h.at_, zero := get_set_eq _ his, main := hA, hr := hr1,
    gone := fun j hj => ?gone, work := fun j h1 h2 => ?work, up := fun ⟨e0, _⟩ => he e0, off := h.off, phase := fun w0 hw0 => ?phase, chan := fun c hc => ?chan, apart := h.apart, idle := h.idle,
    pv := fun j h1 h2 b hb => ⟨Nat.lt_of_lt_of_le (h.pv j h1 h2 b hb).1 hsz1, (h.pv j h1 h2 b hb).2⟩, pvp := h.pvp, base := fun b hb => ?base, low := fun x b hx hb => ?low, n0 := Nat.le_trans h.n0 hsz1, os := hF.os.trans h.os, output := hF.output.trans h.output, ti := ?ti, deaf := fun g' => by rw [Deaf_calm (fun op hop => (hact op hop).2.1)]; exact h.deaf g', mu := h.mu }
  case gone =>
    obtain ⟨g2, k1, k2, k3⟩ := h.gone j hj
    exact ⟨g2, by rw [get_set_ne _ (by omega)]; exact k1, k2, k3⟩
  case work =>
    obtain ⟨k0, g2, k1, k2⟩ := h.work j h1 h2
    have hrj := k0.else_ stays (dst j h1 h2)
    exact ⟨hrj, g2, by rw [get_set_ne _ (by omega)]; exact k1, k2.else_ hrj⟩
  case phase =>
    have ph := h.phase w0 hw0
    refine {
      hr := ph.hr.else_ stays fun x b hx ⟨y, o, hy, hw⟩ => (h.mine hy hw).2.1 w0 hw0 x hx, sub := fun x b hx => hF.ext _ _ (ph.sub x b hx), old := fun x b hx hs => ?_, le := Nat.le_trans ph.le hL.size, fro := fun x o hs => ?_, same := fun x c ty f hs hc => ?_,
      wsub := ph.wsub, wold := ph.wold, wle := ph.wle, wfro := ph.wfro, priv := ph.priv, pvr := fun j h1 h2 x b hp hx => ?_ }
    · rcases newr x b hx with k | ⟨_, _, k⟩
      · exact ph.old x b k hs
      · have := ph.le; omega
    · rintro ⟨c, ty, f, k1, k2, k3⟩
      obtain ⟨c0, k4, k5⟩ := hL.obj x c ty f (Nat.lt_of_lt_of_le hs ph.le) k1
      exact ph.fro x o hs ⟨c0, ty, f, k4, by omega, k3⟩
    · obtain ⟨c0, k4, k5⟩ := hL.obj x c ty f (Nat.lt_of_lt_of_le hs ph.le) hc
      obtain ⟨c1, f1, k6, k7⟩ := ph.same x c0 ty f hs k4
      exact ⟨c1, f1, k6, by omega⟩
    · rcases newr x b hx with k | ⟨k, _, _⟩
      · exact ph.pvr j h1 h2 x b hp k
      · have := (h.pv j h1 h2 b hp).1; omega
  case chan =>
    obtain ⟨k1, k2, k3, k4⟩ := h.chan c hc
    have hcn : c < w'.heap.size := (Array.getElem?_eq_some_iff.1 k1).1
    refine ⟨by rw [chans c hc]; exact k1, k2, fun x hx => ?_, k4⟩
    rcases newr x c hx with k | ⟨k, _, _⟩
    · exact k3 x k
    · omega
  case base =>
    rw [stays b (Nat.lt_of_lt_of_le hb h.n0) fun ⟨x, o, hx, hw⟩ => by have := (h.mine hx hw).1; omega]
    exact h.base b hb
  case low =>
    rcases newr x b hx with k | ⟨k, _, _⟩
    · exact h.low x b k hb
    · have := h.n0; omega
  case ti =>
    refine hti.own0 hsz1 (by omega) (fun k b hk hp => ?_) (fun b hb => ?_) (fun op hop => (hact op hop).1) (fun op hop x hx hmem => ?_) (fun op hop => (hact op hop).2.1) (fun op hop => (hact op hop).2.2.2 _ fun x b hx => ?_)
    · obtain ⟨j, rfl⟩ : ∃ j, k = j + 1 := ⟨k - 1, by omega⟩
      exact (h.pv j (by omega) (by omega) b hp).1
    · obtain ⟨hne, x, hx⟩ := hb
      cases hp : σ.ph with
      | none => exact absurd hp hne
      | some w0 => exact ((h.phase w0 hp).hr.lt hx).2
    · obtain ⟨kp, x0, b, hb, hbk, hwr⟩ := (hact op hop).2.2.1 x hx
      refine ⟨id, b, hbk, ?_⟩
      rcases newr x0 b hb with k | ⟨k1, k2, _⟩
      · refine .inr ⟨fun k' hk' hp => ?_, fun hw _ hB => ?_⟩
        · obtain ⟨j, rfl⟩ : ∃ j, k' = j + 1 := ⟨k' - 1, by omega⟩
          obtain ⟨w0, hw0⟩ := h.ph_some (i := j) (by omega) (by omega)
          exact (h.phase w0 hw0).pvr j (by omega) (by omega) x0 b hp k
        · obtain ⟨hne, z, hz⟩ := hB
          obtain ⟨o, ho⟩ := hwr hw (h.hr.lt k).1
          cases hp : σ.ph with
          | none => exact absurd hp hne
          | some w0 => exact (h.mine k ho).2.1 w0 hp z hz
      · exact .inl k1
    · exact (hr1.lt hx).2
end
end Go.Proofs.Ytcobehkadhcjiaa
