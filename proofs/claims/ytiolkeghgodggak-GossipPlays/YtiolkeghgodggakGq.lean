/-
  Gossip, plain: who tells whom, and what comes of it.
-/
import Derived.Test.YtiolkeghgodggakGp
namespace Go.Proofs.Ytiolkeghgodggak
namespace Plain

/-! ### One list has all that another one has -/
def Ab (a b : List En) : Prop := mergeL b a = b
theorem Ab.nil (b : List En) : Ab [] b := rfl
theorem Ab.refl {a : List En} (h : Srt a) : Ab a a := merge_same h
theorem Ab.left {a b : List En} (ha : Srt a) (hb : Srt b) : Ab a (mergeL a b) := by
  unfold Ab
  rw [merge_comm (merge_srt ha b) ha, ← merge_assoc ha ha hb, merge_same ha]
theorem Ab.right {a b : List En} (ha : Srt a) (hb : Srt b) : Ab b (mergeL a b) := merge_again ha hb
theorem Ab.trans {a b c : List En} (ha : Srt a) (hb : Srt b) (hc : Srt c) (h1 : Ab a b) (h2 : Ab b c) : Ab a c := by
  unfold Ab at *
  conv => lhs; rw [← h2]
  rw [merge_assoc hc hb ha, h1, h2]
theorem Ab.both {a b c : List En} (ha : Srt a) (hb : Srt b) (hc : Srt c) (h1 : Ab a c) (h2 : Ab b c) : Ab (mergeL a b) c := by
  unfold Ab at *
  rw [← merge_assoc hc ha hb, h1, h2]
theorem Ab.anti {a b : List En} (ha : Srt a) (hb : Srt b) (h1 : Ab a b) (h2 : Ab b a) : a = b := by
  unfold Ab at *
  rw [← h1, merge_comm hb ha, h2]
theorem Ab.look {a b : List En} (ha : Srt a) (hb : Srt b) (h : Ab a b) (k : Int) : comb (look k b) (look k a) = look k b := by
  rw [← merge_look hb ha, h]

/-! ### Tells -/
def telC (a b : Nat) : Tu := ⟨3, (a : Int), (b : Int), 0, 0, 0⟩
def telL (l : List (Nat × Nat)) : List Tu := l.map fun p => telC p.1 p.2
def telS (L : List Int) (s : Stt) : List (Nat × Nat) → Stt
  | [] => s
  | p :: l => telS L (tellS L s p.1 p.2) l
theorem telS_app (L : List Int) (s : Stt) (x y : List (Nat × Nat)) : telS L s (x ++ y) = telS L (telS L s x) y := by
  induction x generalizing s with
  | nil => rfl
  | cons p x ih => simp only [List.cons_append, telS, ih]
theorem tuE_telC {n : Nat} (L : List Int) (s : Stt) {a b : Nat} (ha : a < n) (hb : b < n) : tuE n L s (telC a b) = 0 := by
  unfold tuE telC
  dsimp only
  rw [if_neg (by omega), if_neg (by omega), if_pos rfl, if_neg (by omega)]
theorem stF_telL {n : Nat} (L : List Int) (s : Stt) (l : List (Nat × Nat)) (hl : ∀ p, p ∈ l → p.1 < n ∧ p.2 < n) : stF n L s (telL l) = telS L s l := by
  induction l generalizing s with
  | nil => rfl
  | cons p l ih =>
    have hp := hl p (List.mem_cons_self ..)
    have e : tuS n L s (telC p.1 p.2) = tellS L s p.1 p.2 := by
      unfold tuS
      rw [tuE_telC L s hp.1 hp.2, if_neg (by decide), if_pos (show (telC p.1 p.2).kind = 3 from rfl)]
      show tellS L s (p.1 : Int).toNat (p.2 : Int).toNat = _
      rw [Int.toNat_natCast, Int.toNat_natCast]
    show stF n L (tuS n L s (telC p.1 p.2)) (telL l) = telS L (tellS L s p.1 p.2) l
    rw [e]
    exact ih _ fun q hq => hl q (List.mem_cons_of_mem _ hq)
theorem Gok.tells {n : Nat} {L : List Int} {T : Int} {s : Stt} (h : Gok n L T s) (l : List (Nat × Nat)) : Gok n L T (telS L s l) := by
  induction l generalizing s with
  | nil => exact h
  | cons p l ih => exact ih (h.tell _ _)
theorem tell_mono {n : Nat} {L : List Int} {T : Int} {s : Stt} (h : Gok n L T s) (a b i j : Nat) : Ab (s i j) (tellS L s a b i j) := by
  unfold tellS
  split
  · exact Ab.left (h.srt i j) (h.srt a j)
  · exact Ab.refl (h.srt i j)
theorem tells_mono {n : Nat} {L : List Int} {T : Int} {s : Stt} (h : Gok n L T s) (l : List (Nat × Nat)) (i j : Nat) : Ab (s i j) (telS L s l i j) := by
  induction l generalizing s with
  | nil => exact Ab.refl (h.srt i j)
  | cons p l ih => exact Ab.trans (h.srt i j) ((h.tell p.1 p.2).srt i j) (((h.tell p.1 p.2).tells l).srt i j) (tell_mono h p.1 p.2 i j) (ih (h.tell p.1 p.2))
theorem tells_upper {n : Nat} {L : List Int} {T : Int} {s : Stt} (h : Gok n L T s) (l : List (Nat × Nat)) (j : Nat) {U : List En} (hU : Srt U) (hs : ∀ i, Ab (s i j) U) (i : Nat) : Ab (telS L s l i j) U := by
  induction l generalizing s with
  | nil => exact hs i
  | cons p l ih =>
    refine ih (h.tell p.1 p.2) fun i => ?_
    unfold tellS
    split
    · exact Ab.both (h.srt i j) (h.srt p.1 j) hU (hs i) (hs p.1)
    · exact hs i
theorem tells_hit {n : Nat} {L : List Int} {T : Int} {s : Stt} (h : Gok n L T s) (l : List (Nat × Nat)) {a b j : Nat} (hj : j < L.length) (hm : (a, b) ∈ l) (ha : reads (labAt L j) a = true) (hb : reads (labAt L j) b = true) : Ab (s a j) (telS L s l b j) := by
  induction l generalizing s with
  | nil => simp at hm
  | cons p l ih =>
    have h1 := h.tell p.1 p.2
    rcases List.mem_cons.1 hm with e | hm
    · subst e
      have e2 : tellS L s a b b j = mergeL (s b j) (s a j) := by unfold tellS; rw [if_pos ⟨⟨rfl, hj⟩, ha, hb⟩]
      have h2 : Ab (s a j) (tellS L s a b b j) := by rw [e2]; exact Ab.right (h.srt b j) (h.srt a j)
      exact Ab.trans (h.srt a j) (h1.srt b j) ((h1.tells l).srt b j) h2 (tells_mono h1 l b j)
    · exact Ab.trans (h.srt a j) (h1.srt a j) ((h1.tells l).srt b j) (tell_mono h p.1 p.2 a j) (ih h1 hm)
/-- All that is there of a label. -/
def totL (s : Stt) (j : Nat) : List En := mergeL (mergeL (mergeL (s 0 j) (s 1 j)) (s 2 j)) (s 3 j)
theorem totL_srt {n : Nat} {L : List Int} {T : Int} {s : Stt} (h : Gok n L T s) (j : Nat) : Srt (totL s j) := merge_srt (merge_srt (merge_srt (h.srt 0 j) _) _) _
theorem totL_ge {n : Nat} {L : List Int} {T : Int} {s : Stt} (h : Gok n L T s) (j : Nat) {i : Nat} (hi : i < 4) : Ab (s i j) (totL s j) := by
  have s0 := h.srt 0 j; have s1 := h.srt 1 j; have s2 := h.srt 2 j; have s3 := h.srt 3 j
  have m1 := merge_srt s0 (s 1 j)
  have m2 := merge_srt m1 (s 2 j)
  have m3 := merge_srt m2 (s 3 j)
  have up : ∀ {a}, Srt a → Ab a (mergeL (s 0 j) (s 1 j)) → Ab a (totL s j) := fun sa h1 => Ab.trans sa m2 m3 (Ab.trans sa m1 m2 h1 (Ab.left m1 s2)) (Ab.left m2 s3)
  have : i = 0 ∨ i = 1 ∨ i = 2 ∨ i = 3 := by omega
  rcases this with rfl | rfl | rfl | rfl
  · exact up s0 (Ab.left s0 s1)
  · exact up s1 (Ab.right s0 s1)
  · exact Ab.trans s2 m2 m3 (Ab.right m1 s2) (Ab.left m2 s3)
  · exact Ab.right m2 s3
theorem totL_le {n : Nat} {L : List Int} {T : Int} {s : Stt} (h : Gok n L T s) (j : Nat) {U : List En} (hU : Srt U) (hs : ∀ i, i < 4 → Ab (s i j) U) : Ab (totL s j) U := by
  have s0 := h.srt 0 j; have s1 := h.srt 1 j; have s2 := h.srt 2 j; have s3 := h.srt 3 j
  have m1 := merge_srt s0 (s 1 j)
  have m2 := merge_srt m1 (s 2 j)
  exact Ab.both m2 s3 hU (Ab.both m1 s2 hU (Ab.both s0 s1 hU (hs 0 (by omega)) (hs 1 (by omega))) (hs 2 (by omega))) (hs 3 (by omega))
/-- Everyone tells everyone. -/
def allP : List (Nat × Nat) := (List.range 4).flatMap fun i => (List.range 4).map fun k => (i, k)
theorem allP_mem {a b : Nat} (ha : a < 4) (hb : b < 4) : (a, b) ∈ allP := by
  unfold allP
  rw [List.mem_flatMap]
  exact ⟨a, List.mem_range.2 ha, List.mem_map.2 ⟨b, List.mem_range.2 hb, rfl⟩⟩
theorem allP_lt {p : Nat × Nat} (h : p ∈ allP) : p.1 < 4 ∧ p.2 < 4 := by
  unfold allP at h
  rw [List.mem_flatMap] at h
  obtain ⟨a, ha, h⟩ := h
  obtain ⟨b, hb, rfl⟩ := List.mem_map.1 h
  exact ⟨List.mem_range.1 ha, List.mem_range.1 hb⟩
/-- Nobody but four has anything. -/
def Four (s : Stt) : Prop := ∀ i j, 4 ≤ i → s i j = []
theorem Four.tell {L : List Int} {s : Stt} (h : Four s) {a b : Nat} (hb : b < 4) : Four (tellS L s a b) := fun i j hi => by
  unfold tellS
  rw [if_neg (by omega)]
  exact h i j hi
theorem Four.tells {L : List Int} {s : Stt} (h : Four s) (l : List (Nat × Nat)) (hl : ∀ p, p ∈ l → p.1 < 4 ∧ p.2 < 4) : Four (telS L s l) := by
  induction l generalizing s with
  | nil => exact h
  | cons p l ih => exact ih (h.tell (hl p (List.mem_cons_self ..)).2) fun q hq => hl q (List.mem_cons_of_mem _ hq)
/-- When everyone has told everyone, all of a label have all of it. -/
theorem met {L : List Int} {T : Int} {s : Stt} (h : Gok 4 L T s) (h4 : Four s) {i j : Nat} (hi : i < 4) (hj : j < L.length) (hr : reads (labAt L j) i = true) : telS L s allP i j = totL s j := by
  refine Ab.anti ((h.tells allP).srt i j) (totL_srt h j) (tells_upper h allP j (totL_srt h j) (fun k => ?_) i) (totL_le h j ((h.tells allP).srt i j) fun k hk => ?_)
  · by_cases hk : k < 4
    · exact totL_ge h j hk
    · rw [h4 k j (by omega)]; exact Ab.nil _
  · cases hrk : reads (labAt L j) k with
    | true => exact tells_hit h allP hj (allP_mem hk hi) hrk hr
    | false => rw [h.out k j (.inl hrk)]; exact Ab.nil _
/-- All of a label have the same. -/
def Met (L : List Int) (s : Stt) (X : Nat → List En) : Prop := ∀ i j, i < 4 → j < L.length → reads (labAt L j) i = true → s i j = X j
theorem Met.tell {L : List Int} {s : Stt} {X : Nat → List En} (h : Met L s X) (hX : ∀ j, Srt (X j)) {a b : Nat} (ha : a < 4) (hb : b < 4) : tellS L s a b = s := by
  funext i j
  unfold tellS
  split
  · rename_i hc
    obtain ⟨⟨rfl, hj⟩, h1, h2⟩ := hc
    rw [h i j hb hj h2, h a j ha hj h1, merge_same (hX j)]
  · rfl
theorem Met.tells {L : List Int} {s : Stt} {X : Nat → List En} (h : Met L s X) (hX : ∀ j, Srt (X j)) (l : List (Nat × Nat)) (hl : ∀ p, p ∈ l → p.1 < 4 ∧ p.2 < 4) : telS L s l = s := by
  induction l with
  | nil => rfl
  | cons p l ih =>
    have hp := hl p (List.mem_cons_self ..)
    show telS L (tellS L s p.1 p.2) l = s
    rw [h.tell hX hp.1 hp.2]
    exact ih fun q hq => hl q (List.mem_cons_of_mem _ hq)
theorem met_all {L : List Int} {T : Int} {s : Stt} (h : Gok 4 L T s) (h4 : Four s) : Met L (telS L s allP) (totL s) := fun _ _ hi hj hr => met h h4 hi hj hr
/-- So often. -/
def rndP : Nat → List (Nat × Nat)
  | 0 => []
  | n + 1 => rndP n ++ allP
theorem rndP_lt (n : Nat) : ∀ p, p ∈ rndP n → p.1 < 4 ∧ p.2 < 4 := by
  induction n with
  | zero => intro p hp; simp [rndP] at hp
  | succ n ih =>
    intro p hp
    rcases List.mem_append.1 hp with h | h
    · exact ih p h
    · exact allP_lt h
theorem rnd_once {L : List Int} {T : Int} {s : Stt} (h : Gok 4 L T s) (h4 : Four s) (n : Nat) : telS L s (rndP (n + 1)) = telS L s allP := by
  induction n with
  | zero => rfl
  | succ n ih =>
    show telS L s (rndP (n + 1) ++ allP) = _
    rw [telS_app, ih]
    exact (met_all h h4).tells (totL_srt h) allP fun p hp => allP_lt hp
/-! ### Who knows all and writes has the last word -/
/-- Behind a write of one, when all had the same: everyone has it in the end. -/
theorem last_word {L : List Int} {T : Int} {s : Stt} (h : Gok 4 L T s) (h4 : Four s) {X Y : List En} {w j : Nat} (hw : w < 4) (hj : j < L.length)
    (hX : ∀ i, i < 4 → i ≠ w → reads (labAt L j) i = true → s i j = X) (hY : s w j = Y) (hXY : Ab X Y) {i : Nat} (hi : i < 4) (hri : reads (labAt L j) i = true) : telS L s allP i j = Y := by
  rw [met h h4 hi hj hri]
  have sY : Srt Y := hY ▸ h.srt w j
  refine Ab.anti (totL_srt h j) sY (totL_le h j sY fun k hk => ?_) (hY ▸ totL_ge h j hw)
  cases hrk : reads (labAt L j) k with
  | false => rw [h.out k j (.inl hrk)]; exact Ab.nil _
  | true =>
    by_cases e : k = w
    · rw [e, hY]; exact Ab.refl sY
    · rw [hX k hk e hrk]; exact hXY
theorem ab_put {l : List En} (hs : Srt l) {e : En} (he : e.time = maxT l + 1) : Ab l (put l e) := by
  have sp := put_srt hs e
  refine look_ext (merge_srt sp l) sp fun k => ?_
  rw [merge_look sp hs, put_new hs he k]
  by_cases h : e.key = k
  · rw [if_pos h]
    cases hl : look k l with
    | none => rfl
    | some x =>
      show some (top e x) = some e
      have hn := newer_asymm (new_newer he (look_key hl).2)
      unfold top
      rw [hn]; rfl
  · rw [if_neg h]
    cases look k l with
    | none => rfl
    | some x => show some (top x x) = some x; rw [top_same]
/-! ### What is written for others does not matter -/
/-- The same of all labels in which one of some is. -/
def Bl (P : Nat → Prop) (s t : Stt) : Prop := ∀ i j, P j → s i j = t i j
theorem Bl.tell {P : Nat → Prop} {L : List Int} {s t : Stt} (h : Bl P s t) (a b : Nat) : Bl P (tellS L s a b) (tellS L t a b) := fun i j hj => by
  unfold tellS
  rw [h i j hj, h a j hj]
theorem bl_write {P : Nat → Prop} {s : Stt} {t : Tu} (h : ¬ P t.label.toNat) : Bl P s (writeS s t) := fun i j hj => by
  unfold writeS
  rw [if_neg (fun e => h (by rw [← e.2]; exact hj))]
theorem Bl.trans {P : Nat → Prop} {s t u : Stt} (h : Bl P s t) (g : Bl P t u) : Bl P s u := fun i j hj => (h i j hj).trans (g i j hj)
theorem Bl.symm {P : Nat → Prop} {s t : Stt} (h : Bl P s t) : Bl P t s := fun i j hj => (h i j hj).symm
/-- A turn under a label in which none of them is. -/
theorem bl_away {P : Nat → Prop} {n : Nat} {L : List Int} {s : Stt} {t : Tu} (h3 : t.kind ≠ 3) (h : ¬ P t.label.toNat) : Bl P s (tuS n L s t) := by
  unfold tuS
  by_cases h0 : tuE n L s t ≠ 0
  · rw [if_pos h0]; exact fun _ _ _ => rfl
  · rw [if_neg h0, if_neg h3]; exact bl_write h
theorem Bl.same {P : Nat → Prop} {n : Nat} {L : List Int} {s u : Stt} (h : Bl P s u) (t : Tu) (hd : ∀ j, P j ∨ ¬ P j) : Bl P (tuS n L s t) (tuS n L u t) := by
  by_cases h3 : t.kind = 3
  · have e : tuE n L s t = tuE n L u t := by unfold tuE; rw [if_pos h3, if_pos h3]
    unfold tuS
    rw [← e]
    by_cases h0 : tuE n L s t ≠ 0
    · rw [if_pos h0, if_pos h0]; exact h
    · rw [if_neg h0, if_neg h0, if_pos h3, if_pos h3]; exact h.tell _ _
  · rcases hd t.label.toNat with hp | hp
    · have hl := h t.who.toNat t.label.toNat hp
      have e : tuE n L s t = tuE n L u t := by unfold tuE; rw [hl]
      unfold tuS
      rw [← e]
      by_cases h0 : tuE n L s t ≠ 0
      · rw [if_pos h0, if_pos h0]; exact h
      · rw [if_neg h0, if_neg h0, if_neg h3, if_neg h3]
        intro i j hj
        unfold writeS
        rw [h i j hj]
    · exact ((bl_away h3 hp).symm.trans h).trans (bl_away h3 hp)
end Plain
end Go.Proofs.Ytiolkeghgodggak
