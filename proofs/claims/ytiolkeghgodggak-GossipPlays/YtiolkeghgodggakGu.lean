/-
  Gossip, plain: the last word; what was erased; entries as an array of eight.
-/
import Derived.Test.YtiolkeghgodggakGt
namespace Go.Proofs.Ytiolkeghgodggak
namespace Plain

/-- All have met. -/
theorem met_run {L : List Int} (l : List Tu) (hl : l.length ≤ 100) (hm : ∀ t, t ∈ l → MayT t) :
    ∃ X : Nat → List En, Met L (stF 4 L Stt.nil (l ++ telL (rndP 2))) X ∧ Four (stF 4 L Stt.nil (l ++ telL (rndP 2))) ∧ Gok 4 L (l.length : Int) (stF 4 L Stt.nil (l ++ telL (rndP 2))) := by
  have h := run_ok (L := L) l (by omega)
  have h4 := four_nil.run (L := L) l hm
  have e2 : stF 4 L Stt.nil (l ++ telL (rndP 2)) = telS L (stF 4 L Stt.nil l) allP := by rw [stF_app, run_tel]; exact rnd_once h h4 1
  rw [e2]
  exact ⟨totL (stF 4 L Stt.nil l), met_all h h4, h4.tells allP fun p hp => allP_lt hp, h.tells allP⟩
def wrC (w : Nat) (k v : Int) : Tu := ⟨1, (w : Int), 0, 0, k, v⟩
def erC (w : Nat) (k : Int) : Tu := ⟨2, (w : Int), 0, 0, k, 0⟩
theorem wr_wrC {L : List Int} (hL : 0 < L.length) (s : Stt) {w : Nat} (hw : w < 4) {k v : Int} (hk : 0 ≤ k ∧ k < 5) (hv : 0 ≤ v ∧ v < 9) (hr : reads (labAt L 0) w = true) : Wr 4 L s (wrC w k v) :=
  ⟨.inl rfl, by show 0 ≤ (w : Int) ∧ (w : Int) < (4 : Nat); omega, by show (0 : Int) ≤ 0 ∧ (0 : Int) < (L.length : Int); omega, by show 0 ≤ k ∧ k < 8; omega, fun _ => by show 0 ≤ v ∧ v ≤ 255; omega, by show reads (labAt L (0 : Int).toNat) (w : Int).toNat = true; rw [Int.toNat_natCast]; exact hr, fun e => by have e' : (1 : Int) = 2 := e; omega⟩
/-- GossipLast. -/
theorem last_law {L : List Int} (hL : 0 < L.length) (l : List Tu) (hl : l.length ≤ 100) (hm : ∀ t, t ∈ l → MayT t) {w : Nat} (hw : w < 4) {k v : Int} (hk : 0 ≤ k ∧ k < 5) (hv : 0 ≤ v ∧ v < 9) (hr : reads (labAt L 0) w = true) {i : Nat} (hi : i < 4) (hri : reads (labAt L 0) i = true) :
    ∃ e, look k (stF 4 L Stt.nil ((l ++ telL (rndP 2) ++ [wrC w k v]) ++ telL (rndP 2)) i 0) = some e ∧ e.key = k ∧ e.value = v ∧ e.who = w ∧ e.gone = false := by
  obtain ⟨X, hX, h4, hG⟩ := met_run (L := L) l hl hm
  rw [stF_app, stF_app 4 L Stt.nil (l ++ telL (rndP 2)) [wrC w k v]]
  generalize stF 4 L Stt.nil (l ++ telL (rndP 2)) = s at *
  have hw1 := wr_wrC hL s hw hk hv hr
  have h2 : stF 4 L s [wrC w k v] = tuS 4 L s (wrC w k v) := rfl
  have g2 := hG.step (by decide) ⟨by omega, by omega⟩ (wrC w k v)
  have f2 : Four (tuS 4 L s (wrC w k v)) := h4.step (.inl ⟨.inl rfl, by show 0 ≤ (w : Int) ∧ (w : Int) < 4; omega, by show (0 : Int) ≤ 0 ∧ (0 : Int) < 3; omega, hk, hv⟩)
  rw [h2, run_tel, rnd_once g2 f2 1]
  have sl := said_law hG h4 hX ⟨by omega, by omega⟩ hw1 hi hri
  have e1 : (wrC w k v).label.toNat = 0 := rfl
  rw [e1] at sl
  rw [sl.1, sl.2 k]
  refine ⟨_, if_pos rfl, rfl, ?_, rfl, ?_⟩
  · show (if (1 : Int) = 1 then v else 0) = v
    rw [if_pos rfl]
  · show decide ((1 : Int) = 2) = false
    decide
/-- GossipErases. -/
theorem erases_law {L : List Int} (hL : 0 < L.length) (l : List Tu) (hl : l.length ≤ 100) (hm : ∀ t, t ∈ l → MayT t) {w : Nat} (hw : w < 4) {k v : Int} (hk : 0 ≤ k ∧ k < 5) (hv : 0 ≤ v ∧ v < 9) (hr : reads (labAt L 0) w = true) :
    tuE 4 L (stF 4 L Stt.nil (l ++ telL (rndP 2) ++ [wrC w k v])) (erC w k) = 0 ∧
      ∀ i, i < 4 → reads (labAt L 0) i = true → ∃ e, look k (stF 4 L Stt.nil ((l ++ telL (rndP 2) ++ [wrC w k v, erC w k]) ++ telL (rndP 2)) i 0) = some e ∧ e.key = k ∧ e.gone = true := by
  obtain ⟨X, hX, h4, hG⟩ := met_run (L := L) l hl hm
  rw [stF_app 4 L Stt.nil (l ++ telL (rndP 2) ++ [wrC w k v, erC w k]) (telL (rndP 2)), stF_app 4 L Stt.nil (l ++ telL (rndP 2)) [wrC w k v], stF_app 4 L Stt.nil (l ++ telL (rndP 2)) [wrC w k v, erC w k]]
  generalize stF 4 L Stt.nil (l ++ telL (rndP 2)) = s at *
  have hw1 := wr_wrC hL s hw hk hv hr
  have hE1 := write_ok hw1
  have h2 : stF 4 L s [wrC w k v] = tuS 4 L s (wrC w k v) := rfl
  have h3 : stF 4 L s [wrC w k v, erC w k] = tuS 4 L (tuS 4 L s (wrC w k v)) (erC w k) := rfl
  have e2 : tuS 4 L s (wrC w k v) = writeS s (wrC w k v) := by unfold tuS; rw [hE1, if_neg (by decide), if_neg (by show ¬ (1 : Int) = 3; omega)]
  have g2 := hG.write (by decide) ⟨by omega, by omega⟩ hw1
  have f2 : Four (writeS s (wrC w k v)) := by rw [← e2]; exact h4.step (.inl ⟨.inl rfl, by show 0 ≤ (w : Int) ∧ (w : Int) < 4; omega, by show (0 : Int) ≤ 0 ∧ (0 : Int) < 3; omega, hk, hv⟩)
  have y1 : writeS s (wrC w k v) w 0 = put (s w 0) (entF (s w 0) (wrC w k v)) := by unfold writeS; rw [if_pos ⟨by show w = (w : Int).toNat; rw [Int.toNat_natCast], rfl⟩]
  have o1 : ∀ i, i ≠ w → writeS s (wrC w k v) i 0 = s i 0 := fun i hi => by unfold writeS; rw [if_neg (fun x => hi (by have := x.1; rw [show (wrC w k v).who.toNat = w from Int.toNat_natCast w] at this; exact this))]
  have lk1 : look k (writeS s (wrC w k v) w 0) = some (entF (s w 0) (wrC w k v)) := by rw [y1, put_new (hG.srt w 0) rfl k]; exact if_pos rfl
  have hw2 : Wr 4 L (writeS s (wrC w k v)) (erC w k) :=
    ⟨.inr rfl, by show 0 ≤ (w : Int) ∧ (w : Int) < (4 : Nat); omega, by show (0 : Int) ≤ 0 ∧ (0 : Int) < (L.length : Int); omega, by show 0 ≤ k ∧ k < 8; omega, fun e => by have e' : (2 : Int) = 1 := e; omega, by show reads (labAt L (0 : Int).toNat) (w : Int).toNat = true; rw [Int.toNat_natCast]; exact hr, fun _ => by
      show lives k (writeS s (wrC w k v) (w : Int).toNat (0 : Int).toNat) = true
      rw [Int.toNat_natCast]
      show lives k (writeS s (wrC w k v) w 0) = true
      unfold lives
      rw [lk1]
      rfl⟩
  have hE2 := write_ok hw2
  have e3 : tuS 4 L (writeS s (wrC w k v)) (erC w k) = writeS (writeS s (wrC w k v)) (erC w k) := by unfold tuS; rw [hE2, if_neg (by decide), if_neg (by show ¬ (2 : Int) = 3; omega)]
  have g3 := g2.write (by decide) ⟨by omega, by omega⟩ hw2
  have f3 : Four (writeS (writeS s (wrC w k v)) (erC w k)) := by rw [← e3]; exact f2.step (.inl ⟨.inr rfl, by show 0 ≤ (w : Int) ∧ (w : Int) < 4; omega, by show (0 : Int) ≤ 0 ∧ (0 : Int) < 3; omega, hk, by show (0 : Int) ≤ 0 ∧ (0 : Int) < 9; omega⟩)
  have y2 : writeS (writeS s (wrC w k v)) (erC w k) w 0 = put (writeS s (wrC w k v) w 0) (entF (writeS s (wrC w k v) w 0) (erC w k)) := by
    conv => lhs; unfold writeS
    rw [if_pos ⟨by show w = (w : Int).toNat; rw [Int.toNat_natCast], rfl⟩]
    rfl
  have o2 : ∀ i, i ≠ w → writeS (writeS s (wrC w k v)) (erC w k) i 0 = s i 0 := fun i hi => by
    have : writeS (writeS s (wrC w k v)) (erC w k) i 0 = writeS s (wrC w k v) i 0 := by
      conv => lhs; unfold writeS
      rw [if_neg (fun x => hi (by have := x.1; rw [show (erC w k).who.toNat = w from Int.toNat_natCast w] at this; exact this))]
      rfl
    rw [this, o1 i hi]
  rw [h2, h3, e2, e3]
  refine ⟨hE2, fun i hi hri => ?_⟩
  rw [run_tel, rnd_once g3 f3 1]
  have hXw : s w 0 = X 0 := hX w 0 hw hL hr
  have lw := last_word g3 f3 (X := X 0) (Y := writeS (writeS s (wrC w k v)) (erC w k) w 0) hw hL (fun j hj hne hrj => by rw [o2 j hne]; exact hX j 0 hj hL hrj) rfl (by
    rw [y2]
    have a1 : Ab (X 0) (writeS s (wrC w k v) w 0) := by rw [y1, ← hXw]; exact ab_put (hG.srt w 0) rfl
    exact Ab.trans (by rw [← hXw]; exact hG.srt w 0) (g2.srt w 0) (put_srt (g2.srt w 0) _) a1 (ab_put (g2.srt w 0) rfl)) hi hri
  rw [lw, y2, put_new (g2.srt w 0) rfl k]
  exact ⟨_, if_pos rfl, rfl, rfl⟩

/-! ### Entries as an array of eight -/
/-- The entries of an array, in their order. -/
def listA (f : Nat → Option En) (n : Nat) : List En := (List.range n).filterMap f
theorem listA_succ (f : Nat → Option En) (n : Nat) : listA f (n + 1) = listA f n ++ (f n).toList := by
  unfold listA
  rw [List.range_succ, List.filterMap_append]
  cases h : f n <;> simp [h]
/-- An array whose entries stand under their keys. -/
def Keyed8 (f : Nat → Option En) : Prop := ∀ k e, f k = some e → e.key = (k : Int)
theorem listA_mem {f : Nat → Option En} {n : Nat} {e : En} : e ∈ listA f n ↔ ∃ k, k < n ∧ f k = some e := by
  unfold listA
  rw [List.mem_filterMap]
  exact ⟨fun ⟨k, h1, h2⟩ => ⟨k, List.mem_range.1 h1, h2⟩, fun ⟨k, h1, h2⟩ => ⟨k, List.mem_range.2 h1, h2⟩⟩
theorem listA_srt {f : Nat → Option En} (h : Keyed8 f) (n : Nat) : Srt (listA f n) := by
  induction n with
  | zero => exact List.Pairwise.nil
  | succ n ih =>
    rw [listA_succ]
    refine List.pairwise_append.2 ⟨ih, ?_, fun a ha b hb => ?_⟩
    · cases f n with
      | none => exact List.Pairwise.nil
      | some e => exact List.pairwise_singleton _ _
    · obtain ⟨k, hk, hf⟩ := listA_mem.1 ha
      have h1 := h k a hf
      cases hn : f n with
      | none => rw [hn] at hb; simp at hb
      | some e =>
        rw [hn] at hb
        have : b = e := by simpa using hb
        have h2 := h n e hn
        subst this
        omega
theorem listA_look {f : Nat → Option En} (h : Keyed8 f) {n k : Nat} (hk : k < n) : look (k : Int) (listA f n) = f k := by
  cases hf : f k with
  | some e =>
    have hm : e ∈ listA f n := listA_mem.2 ⟨k, hk, hf⟩
    have := look_mem (listA_srt h n) hm
    rw [h k e hf] at this
    exact this
  | none =>
    refine look_none fun e he hke => ?_
    obtain ⟨j, _, hj⟩ := listA_mem.1 he
    have h1 := h j e hj
    have : j = k := by omega
    rw [this, hf] at hj
    cases hj
theorem listA_out {f : Nat → Option En} (h : Keyed8 f) {n : Nat} {k : Int} (hk : k < 0 ∨ (n : Int) ≤ k) : look k (listA f n) = none := by
  refine look_none fun e he hke => ?_
  obtain ⟨j, hj1, hj⟩ := listA_mem.1 he
  have h1 := h j e hj
  omega
/-- Entries of which all keys are below n are the list of their array. -/
theorem list_listA {l : List En} (hs : Srt l) {n : Nat} (hk : ∀ e ∈ l, 0 ≤ e.key ∧ e.key < n) : listA (fun k => look (k : Int) l) n = l := by
  have hK : Keyed8 (fun k => look (k : Int) l) := fun k e h => (look_key h).1
  refine look_ext (listA_srt hK n) hs fun k => ?_
  by_cases h : 0 ≤ k ∧ k < n
  · obtain ⟨j, rfl⟩ : ∃ j : Nat, k = (j : Int) := ⟨k.toNat, by omega⟩
    exact listA_look hK (by omega)
  · rw [listA_out hK (by omega), look_none fun e he hke => h (by have := hk e he; omega)]
/-- The greatest time, place by place. -/
def maxA (f : Nat → Option En) : Nat → Int
  | 0 => 0
  | k + 1 => match f k with
    | some e => max (maxA f k) e.time
    | none => maxA f k
theorem maxT_app (a b : List En) : maxT (a ++ b) = max (maxT a) (maxT b) := by
  have : maxT (a ++ b) = b.foldl (fun t e => max t e.time) (maxT a) := by unfold maxT; rw [List.foldl_append]
  rw [this, maxT_acc b _ (maxT_pos a)]
theorem maxA_list (f : Nat → Option En) (n : Nat) : maxT (listA f n) = maxA f n := by
  induction n with
  | zero => rfl
  | succ n ih =>
    rw [listA_succ, maxT_app, ih]
    have hp : 0 ≤ maxA f n := by rw [← ih]; exact maxT_pos _
    cases h : f n with
    | none =>
      have e : maxA f (n + 1) = maxA f n := by show (match f n with | some e => max (maxA f n) e.time | none => maxA f n) = _; rw [h]
      rw [e]
      show max (maxA f n) (maxT []) = _
      rw [maxT_nil]; omega
    | some e =>
      have e1 : maxA f (n + 1) = max (maxA f n) e.time := by show (match f n with | some e => max (maxA f n) e.time | none => maxA f n) = _; rw [h]
      rw [e1]
      show max (maxA f n) (maxT [e]) = _
      rw [maxT_cons, maxT_nil]; omega
end Plain
end Go.Proofs.Ytiolkeghgodggak
