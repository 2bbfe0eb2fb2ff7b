/-
  A step that has a line.
-/
import Derived.Test.YtaimgddhbkcikapDoorDG
import Derived.Test.YtaimgddhbkcikapDoorDP
namespace Go.Proofs.YtaimgddhbkcikapDoor
open Go Go.RowKit Go.Sort Go.Shelf
open Plain
set_option maxRecDepth 100000

def lineS (a b c d : Int) : Nat → Sp
  | 1 => ⟨1, a, b, c, 0, 0, 0, 0⟩
  | 2 => ⟨2, a, b, c, 0, 0, 0, 0⟩
  | 3 => ⟨3, a, b, c, d, 0, 0, 0⟩
  | 4 => ⟨4, a, b, 0, 0, c, 0, 0⟩
  | 5 => ⟨5, a, b, 0, 0, c, 0, 0⟩
  | 6 => ⟨6, a, b, c, 0, 0, 0, 0⟩
  | 7 => ⟨7, a, 0, d, 0, 0, b, c⟩
  | 8 => ⟨8, a, 0, 0, 0, 0, b, c⟩
  | 9 => ⟨9, 0, 0, 0, 0, 0, 0, 0⟩
  | 10 => ⟨10, 0, 0, 0, 0, a, 0, 0⟩
  | 11 => ⟨11, 0, 0, 0, 0, a, 0, 0⟩
  | _ => ⟨0, 0, 0, 0, 0, 0, 0, 0⟩

set_option maxHeartbeats 4000000 in
theorem ls_1 (x a b c d : Int) (w : World) (hx : In64 x) (hj : x % 11 = 0) : Calls Tryd.prog 11 #[.int .i64 x, .int .i64 a, .int .i64 b, .int .i64 c, .int .i64 d] w fun e w' => e = .returned (.agg (stC ⟨1, a, b, c, 0, 0, 0, 0⟩)) ∧ Below w.heap.size w w' := by
  have KP := hid (fun w => picked_any x 11 hx.1 hx.2 (by omega) (by omega) w)
  rw [hj] at KP
  clear hj
  have XB := hid (show BoxS (w.alloc (.cells (stC ⟨1, a, b, c, 0, 0, 0, 0⟩) 23)) w.heap.size ⟨1, a, b, c, 0, 0, 0, 0⟩ by unfold BoxS; show (w.heap.push _)[w.heap.size]? = _; simp)
  go_enter Tryd.func11, Tryd.ntmps11
  go_wp2_with (go_at_call 18; refine (KP.out _).mono ?_; rintro e w' ⟨rfl, rfl⟩)
  exact bodyPost_P rfl w.heap.size ⟨1, a, b, c, 0, 0, 0, 0⟩ rfl XB.out rfl ⟨rfl, (Below.refl _ _).alloc (Nat.le_refl _) _⟩

set_option maxHeartbeats 4000000 in
theorem ls_2 (x a b c d : Int) (w : World) (hx : In64 x) (hj : x % 11 = 1) : Calls Tryd.prog 11 #[.int .i64 x, .int .i64 a, .int .i64 b, .int .i64 c, .int .i64 d] w fun e w' => e = .returned (.agg (stC ⟨2, a, b, c, 0, 0, 0, 0⟩)) ∧ Below w.heap.size w w' := by
  have KP := hid (fun w => picked_any x 11 hx.1 hx.2 (by omega) (by omega) w)
  rw [hj] at KP
  clear hj
  have XB := hid (show BoxS (w.alloc (.cells (stC ⟨2, a, b, c, 0, 0, 0, 0⟩) 23)) w.heap.size ⟨2, a, b, c, 0, 0, 0, 0⟩ by unfold BoxS; show (w.heap.push _)[w.heap.size]? = _; simp)
  go_enter Tryd.func11, Tryd.ntmps11
  go_wp2_with (go_at_call 18; refine (KP.out _).mono ?_; rintro e w' ⟨rfl, rfl⟩)
  exact bodyPost_P rfl w.heap.size ⟨2, a, b, c, 0, 0, 0, 0⟩ rfl XB.out rfl ⟨rfl, (Below.refl _ _).alloc (Nat.le_refl _) _⟩

set_option maxHeartbeats 4000000 in
theorem ls_3 (x a b c d : Int) (w : World) (hx : In64 x) (hj : x % 11 = 2) : Calls Tryd.prog 11 #[.int .i64 x, .int .i64 a, .int .i64 b, .int .i64 c, .int .i64 d] w fun e w' => e = .returned (.agg (stC ⟨3, a, b, c, d, 0, 0, 0⟩)) ∧ Below w.heap.size w w' := by
  have KP := hid (fun w => picked_any x 11 hx.1 hx.2 (by omega) (by omega) w)
  rw [hj] at KP
  clear hj
  have XB := hid (show BoxS (w.alloc (.cells (stC ⟨3, a, b, c, d, 0, 0, 0⟩) 23)) w.heap.size ⟨3, a, b, c, d, 0, 0, 0⟩ by unfold BoxS; show (w.heap.push _)[w.heap.size]? = _; simp)
  go_enter Tryd.func11, Tryd.ntmps11
  go_wp2_with (go_at_call 18; refine (KP.out _).mono ?_; rintro e w' ⟨rfl, rfl⟩)
  exact bodyPost_P rfl w.heap.size ⟨3, a, b, c, d, 0, 0, 0⟩ rfl XB.out rfl ⟨rfl, (Below.refl _ _).alloc (Nat.le_refl _) _⟩

set_option maxHeartbeats 4000000 in
theorem ls_4 (x a b c d : Int) (w : World) (hx : In64 x) (hj : x % 11 = 3) : Calls Tryd.prog 11 #[.int .i64 x, .int .i64 a, .int .i64 b, .int .i64 c, .int .i64 d] w fun e w' => e = .returned (.agg (stC ⟨4, a, b, 0, 0, c, 0, 0⟩)) ∧ Below w.heap.size w w' := by
  have KP := hid (fun w => picked_any x 11 hx.1 hx.2 (by omega) (by omega) w)
  rw [hj] at KP
  clear hj
  have XB := hid (show BoxS (w.alloc (.cells (stC ⟨4, a, b, 0, 0, c, 0, 0⟩) 23)) w.heap.size ⟨4, a, b, 0, 0, c, 0, 0⟩ by unfold BoxS; show (w.heap.push _)[w.heap.size]? = _; simp)
  go_enter Tryd.func11, Tryd.ntmps11
  go_wp2_with (go_at_call 18; refine (KP.out _).mono ?_; rintro e w' ⟨rfl, rfl⟩)
  exact bodyPost_P rfl w.heap.size ⟨4, a, b, 0, 0, c, 0, 0⟩ rfl XB.out rfl ⟨rfl, (Below.refl _ _).alloc (Nat.le_refl _) _⟩

set_option maxHeartbeats 4000000 in
theorem ls_5 (x a b c d : Int) (w : World) (hx : In64 x) (hj : x % 11 = 4) : Calls Tryd.prog 11 #[.int .i64 x, .int .i64 a, .int .i64 b, .int .i64 c, .int .i64 d] w fun e w' => e = .returned (.agg (stC ⟨5, a, b, 0, 0, c, 0, 0⟩)) ∧ Below w.heap.size w w' := by
  have KP := hid (fun w => picked_any x 11 hx.1 hx.2 (by omega) (by omega) w)
  rw [hj] at KP
  clear hj
  have XB := hid (show BoxS (w.alloc (.cells (stC ⟨5, a, b, 0, 0, c, 0, 0⟩) 23)) w.heap.size ⟨5, a, b, 0, 0, c, 0, 0⟩ by unfold BoxS; show (w.heap.push _)[w.heap.size]? = _; simp)
  go_enter Tryd.func11, Tryd.ntmps11
  go_wp2_with (go_at_call 18; refine (KP.out _).mono ?_; rintro e w' ⟨rfl, rfl⟩)
  exact bodyPost_P rfl w.heap.size ⟨5, a, b, 0, 0, c, 0, 0⟩ rfl XB.out rfl ⟨rfl, (Below.refl _ _).alloc (Nat.le_refl _) _⟩

set_option maxHeartbeats 4000000 in
theorem ls_6 (x a b c d : Int) (w : World) (hx : In64 x) (hj : x % 11 = 5) : Calls Tryd.prog 11 #[.int .i64 x, .int .i64 a, .int .i64 b, .int .i64 c, .int .i64 d] w fun e w' => e = .returned (.agg (stC ⟨6, a, b, c, 0, 0, 0, 0⟩)) ∧ Below w.heap.size w w' := by
  have KP := hid (fun w => picked_any x 11 hx.1 hx.2 (by omega) (by omega) w)
  rw [hj] at KP
  clear hj
  have XB := hid (show BoxS (w.alloc (.cells (stC ⟨6, a, b, c, 0, 0, 0, 0⟩) 23)) w.heap.size ⟨6, a, b, c, 0, 0, 0, 0⟩ by unfold BoxS; show (w.heap.push _)[w.heap.size]? = _; simp)
  go_enter Tryd.func11, Tryd.ntmps11
  go_wp2_with (go_at_call 18; refine (KP.out _).mono ?_; rintro e w' ⟨rfl, rfl⟩)
  exact bodyPost_P rfl w.heap.size ⟨6, a, b, c, 0, 0, 0, 0⟩ rfl XB.out rfl ⟨rfl, (Below.refl _ _).alloc (Nat.le_refl _) _⟩

set_option maxHeartbeats 4000000 in
theorem ls_7 (x a b c d : Int) (w : World) (hx : In64 x) (hj : x % 11 = 6) : Calls Tryd.prog 11 #[.int .i64 x, .int .i64 a, .int .i64 b, .int .i64 c, .int .i64 d] w fun e w' => e = .returned (.agg (stC ⟨7, a, 0, d, 0, 0, b, c⟩)) ∧ Below w.heap.size w w' := by
  have KP := hid (fun w => picked_any x 11 hx.1 hx.2 (by omega) (by omega) w)
  rw [hj] at KP
  clear hj
  have XB := hid (show BoxS (w.alloc (.cells (stC ⟨7, a, 0, d, 0, 0, b, c⟩) 23)) w.heap.size ⟨7, a, 0, d, 0, 0, b, c⟩ by unfold BoxS; show (w.heap.push _)[w.heap.size]? = _; simp)
  go_enter Tryd.func11, Tryd.ntmps11
  go_wp2_with (go_at_call 18; refine (KP.out _).mono ?_; rintro e w' ⟨rfl, rfl⟩)
  exact bodyPost_P rfl w.heap.size ⟨7, a, 0, d, 0, 0, b, c⟩ rfl XB.out rfl ⟨rfl, (Below.refl _ _).alloc (Nat.le_refl _) _⟩

set_option maxHeartbeats 4000000 in
theorem ls_8 (x a b c d : Int) (w : World) (hx : In64 x) (hj : x % 11 = 7) : Calls Tryd.prog 11 #[.int .i64 x, .int .i64 a, .int .i64 b, .int .i64 c, .int .i64 d] w fun e w' => e = .returned (.agg (stC ⟨8, a, 0, 0, 0, 0, b, c⟩)) ∧ Below w.heap.size w w' := by
  have KP := hid (fun w => picked_any x 11 hx.1 hx.2 (by omega) (by omega) w)
  rw [hj] at KP
  clear hj
  have XB := hid (show BoxS (w.alloc (.cells (stC ⟨8, a, 0, 0, 0, 0, b, c⟩) 23)) w.heap.size ⟨8, a, 0, 0, 0, 0, b, c⟩ by unfold BoxS; show (w.heap.push _)[w.heap.size]? = _; simp)
  go_enter Tryd.func11, Tryd.ntmps11
  go_wp2_with (go_at_call 18; refine (KP.out _).mono ?_; rintro e w' ⟨rfl, rfl⟩)
  exact bodyPost_P rfl w.heap.size ⟨8, a, 0, 0, 0, 0, b, c⟩ rfl XB.out rfl ⟨rfl, (Below.refl _ _).alloc (Nat.le_refl _) _⟩

set_option maxHeartbeats 4000000 in
theorem ls_9 (x a b c d : Int) (w : World) (hx : In64 x) (hj : x % 11 = 8) : Calls Tryd.prog 11 #[.int .i64 x, .int .i64 a, .int .i64 b, .int .i64 c, .int .i64 d] w fun e w' => e = .returned (.agg (stC ⟨9, 0, 0, 0, 0, 0, 0, 0⟩)) ∧ Below w.heap.size w w' := by
  have KP := hid (fun w => picked_any x 11 hx.1 hx.2 (by omega) (by omega) w)
  rw [hj] at KP
  clear hj
  have XB := hid (show BoxS (w.alloc (.cells (stC ⟨9, 0, 0, 0, 0, 0, 0, 0⟩) 23)) w.heap.size ⟨9, 0, 0, 0, 0, 0, 0, 0⟩ by unfold BoxS; show (w.heap.push _)[w.heap.size]? = _; simp)
  go_enter Tryd.func11, Tryd.ntmps11
  go_wp2_with (go_at_call 18; refine (KP.out _).mono ?_; rintro e w' ⟨rfl, rfl⟩)
  exact bodyPost_P rfl w.heap.size ⟨9, 0, 0, 0, 0, 0, 0, 0⟩ rfl XB.out rfl ⟨rfl, (Below.refl _ _).alloc (Nat.le_refl _) _⟩

set_option maxHeartbeats 4000000 in
theorem ls_10 (x a b c d : Int) (w : World) (hx : In64 x) (hj : x % 11 = 9) : Calls Tryd.prog 11 #[.int .i64 x, .int .i64 a, .int .i64 b, .int .i64 c, .int .i64 d] w fun e w' => e = .returned (.agg (stC ⟨10, 0, 0, 0, 0, a, 0, 0⟩)) ∧ Below w.heap.size w w' := by
  have KP := hid (fun w => picked_any x 11 hx.1 hx.2 (by omega) (by omega) w)
  rw [hj] at KP
  clear hj
  have XB := hid (show BoxS (w.alloc (.cells (stC ⟨10, 0, 0, 0, 0, a, 0, 0⟩) 23)) w.heap.size ⟨10, 0, 0, 0, 0, a, 0, 0⟩ by unfold BoxS; show (w.heap.push _)[w.heap.size]? = _; simp)
  go_enter Tryd.func11, Tryd.ntmps11
  go_wp2_with (go_at_call 18; refine (KP.out _).mono ?_; rintro e w' ⟨rfl, rfl⟩)
  exact bodyPost_P rfl w.heap.size ⟨10, 0, 0, 0, 0, a, 0, 0⟩ rfl XB.out rfl ⟨rfl, (Below.refl _ _).alloc (Nat.le_refl _) _⟩

set_option maxHeartbeats 4000000 in
theorem ls_11 (x a b c d : Int) (w : World) (hx : In64 x) (hj : x % 11 = 10) : Calls Tryd.prog 11 #[.int .i64 x, .int .i64 a, .int .i64 b, .int .i64 c, .int .i64 d] w fun e w' => e = .returned (.agg (stC ⟨11, 0, 0, 0, 0, a, 0, 0⟩)) ∧ Below w.heap.size w w' := by
  have KP := hid (fun w => picked_any x 11 hx.1 hx.2 (by omega) (by omega) w)
  rw [hj] at KP
  clear hj
  have XB := hid (show BoxS (w.alloc (.cells (stC ⟨11, 0, 0, 0, 0, a, 0, 0⟩) 23)) w.heap.size ⟨11, 0, 0, 0, 0, a, 0, 0⟩ by unfold BoxS; show (w.heap.push _)[w.heap.size]? = _; simp)
  go_enter Tryd.func11, Tryd.ntmps11
  go_wp2_with (go_at_call 18; refine (KP.out _).mono ?_; rintro e w' ⟨rfl, rfl⟩)
  exact bodyPost_P rfl w.heap.size ⟨11, 0, 0, 0, 0, a, 0, 0⟩ rfl XB.out rfl ⟨rfl, (Below.refl _ _).alloc (Nat.le_refl _) _⟩

/-- The kind that is picked. -/
def pickK (x : Int) : Nat := (x % 11).toNat + 1
theorem lineStep_c (x a b c d : Int) (w : World) (hx : In64 x) : Calls Tryd.prog 11 #[.int .i64 x, .int .i64 a, .int .i64 b, .int .i64 c, .int .i64 d] w fun e w' => e = .returned (.agg (stC (lineS a b c d (pickK x)))) ∧ Below w.heap.size w w' := by
  have h : x % 11 = 0 ∨ x % 11 = 1 ∨ x % 11 = 2 ∨ x % 11 = 3 ∨ x % 11 = 4 ∨ x % 11 = 5 ∨ x % 11 = 6 ∨ x % 11 = 7 ∨ x % 11 = 8 ∨ x % 11 = 9 ∨ x % 11 = 10 := by omega
  unfold pickK
  rcases h with h | h | h | h | h | h | h | h | h | h | h <;> rw [h]
  · exact ls_1 x a b c d w hx h
  · exact ls_2 x a b c d w hx h
  · exact ls_3 x a b c d w hx h
  · exact ls_4 x a b c d w hx h
  · exact ls_5 x a b c d w hx h
  · exact ls_6 x a b c d w hx h
  · exact ls_7 x a b c d w hx h
  · exact ls_8 x a b c d w hx h
  · exact ls_9 x a b c d w hx h
  · exact ls_10 x a b c d w hx h
  · exact ls_11 x a b c d w hx h
theorem pickK_lt (x : Int) : 1 ≤ pickK x ∧ pickK x < 12 := by unfold pickK; omega
theorem lineS_in (a b c d : Int) (ha : In64 a) (hb : In64 b) (hc : In64 c) (hd : In64 d) (k : Nat) : InSp (lineS a b c d k) := by
  have z : In64 0 := by unfold In64; omega
  have hn : ∀ n : Nat, n < 100 → In64 (n : Int) := fun n h => by unfold In64; omega
  unfold lineS
  split <;> (intro i; rcases i with _ | _ | _ | _ | _ | _ | _ | _ | i <;> simp only [Sp.at] <;> first | assumption | (unfold In64; omega))
theorem line_facts (a b c d : Int) (k : Nat) (h1 : 1 ≤ k) (h2 : k < 12) : badK (lineS a b c d k) = false ∧ kindN (lineS a b c d k) = k ∧ (restK (lineS a b c d k) k).all (fun n => decide (n = 0)) = true ∧ (lettL k).length = (numsK (lineS a b c d k) k).length ∧ gsN (lettL k) (numsK (lineS a b c d k) k) ⟨k, 0, 0, 0, 0, 0, 0, 0⟩ = lineS a b c d k := by
  have : k = 1 ∨ k = 2 ∨ k = 3 ∨ k = 4 ∨ k = 5 ∨ k = 6 ∨ k = 7 ∨ k = 8 ∨ k = 9 ∨ k = 10 ∨ k = 11 := by omega
  rcases this with rfl | rfl | rfl | rfl | rfl | rfl | rfl | rfl | rfl | rfl | rfl <;> refine ⟨rfl, rfl, ?_, rfl, rfl⟩ <;> simp [lineS, restK]
/-- The line. -/
def lineL (a b c d : Int) (k : Nat) : List UInt8 := wordL k ++ flN (numsK (lineS a b c d k) k)
theorem line_show (a b c d : Int) (k : Nat) (h1 : 1 ≤ k) (h2 : k < 12) : shE (lineS a b c d k) = 0 ∧ shL (lineS a b c d k) = lineL a b c d k := by
  obtain ⟨_, e2, e3, _, _⟩ := line_facts a b c d k h1 h2
  have hk0 : ¬ k = 0 := by omega
  refine ⟨?_, ?_⟩
  · rw [shE_doc, e2, e3, if_neg hk0]
    rfl
  · rw [shL_doc, e2, e3, if_neg hk0]
    rfl
theorem line_reads (a b c d : Int) (ha : In64 a) (hb : In64 b) (hc : In64 c) (hd : In64 d) (k : Nat) (h1 : 1 ≤ k) (h2 : k < 12) : rdS (lineL a b c d k) = lineS a b c d k ∧ rdE (lineL a b c d k) = 0 := by
  obtain ⟨_, _, _, e4, e5⟩ := line_facts a b c d k h1 h2
  have hg : guessP (lineL a b c d k) = lineS a b c d k := by
    unfold lineL
    rw [guess_nums k h2 _ e4 (nums_in (lineS_in a b c d ha hb hc hd k) k), e5]
  have hr : reads (lineL a b c d k) = true := by
    unfold reads
    rw [hg, (line_show a b c d k h1 h2).1, (line_show a b c d k h1 h2).2]
    simp
  unfold rdS rdE
  rw [hr, hg]
  exact ⟨rfl, rfl⟩
theorem last_app (x : List UInt8) {l : List UInt8} (h : l ≠ []) : (x ++ l).getLast? = l.getLast? := by
  rw [List.getLast?_append, List.getLast?_eq_some_getLast h]
  rfl
theorem head_app (x : List UInt8) {l : List UInt8} (h : l ≠ []) : (l ++ x).head? = l.head? := by
  cases l with
  | nil => exact absurd rfl h
  | cons a r => rfl
theorem flN_last {l : List Int} (h : l ≠ []) : (flN l).getLast? ≠ some 32 := by
  obtain ⟨l', n, rfl⟩ : ∃ l' n, l = l' ++ [n] := ⟨l.dropLast, l.getLast h, (List.dropLast_concat_getLast h).symm⟩
  unfold flN
  rw [List.flatMap_append]
  simp only [List.flatMap_cons, List.flatMap_nil, List.append_nil]
  rw [last_app _ (by simp), List.getLast?_cons]
  intro e
  have hne := itoa_ne n
  rw [List.getLast?_eq_some_getLast hne] at e
  simp only [Option.getD_some, Option.some.injEq] at e
  exact itoa_signs n _ (List.getLast_mem hne) e
theorem word_last : ∀ k, k < 12 → (wordL k).getLast? ≠ some 32 := by decide
theorem word_head : ∀ k, k < 12 → (wordL k).head? ≠ some 32 := by decide
theorem shL_last (g : Sp) : (shL g).getLast? ≠ some 32 := by
  rw [shL_doc]
  split
  · simp
  · split
    · by_cases h : numsK g (kindN g) = []
      · rw [h]
        simp only [flN, List.flatMap_nil, List.append_nil]
        exact word_last _ (kindN_lt g)
      · rw [last_app _ (by
          intro e
          cases h2 : numsK g (kindN g) with
          | nil => exact h h2
          | cons n l => rw [h2] at e; simp [flN] at e)]
        exact flN_last h
    · simp
theorem shL_head (g : Sp) : (shL g).head? ≠ some 32 := by
  rw [shL_doc]
  split
  · simp
  · rename_i hk
    split
    · have hne := wordL_some _ (kindN_lt g) hk
      rw [head_app _ hne]
      exact word_head _ (kindN_lt g)
    · simp
theorem blank_behind (l : List UInt8) : rdE (l ++ [32]) = 4 := by
  have : reads (l ++ [32]) = false := by
    unfold reads
    rw [Bool.and_eq_false_iff]
    refine .inr (decide_eq_false fun e => ?_)
    refine shL_last (guessP (l ++ [32])) ?_
    rw [e]
    simp
  exact (not_reads this).2
theorem blank_ahead (l : List UInt8) : rdE (32 :: l) = 4 := by
  have : reads (32 :: l) = false := by
    unfold reads
    rw [Bool.and_eq_false_iff]
    refine .inr (decide_eq_false fun e => ?_)
    refine shL_head (guessP (32 :: l)) ?_
    rw [e]
    rfl
  exact (not_reads this).2
theorem line_len (a b c d : Int) (ha : In64 a) (hb : In64 b) (hc : In64 c) (hd : In64 d) (k : Nat) (h1 : 1 ≤ k) (h2 : k < 12) : 2 < (lineL a b c d k).length ∧ (lineL a b c d k).length ≤ 100 := by
  have h3 : ∀ k, k < 12 → 1 ≤ k → 2 < (wordL k).length := by decide
  have h4 := (word_len k h2).1
  have h5 := flN_len (nums_in (lineS_in a b c d ha hb hc hd k) k)
  have h6 := (nums_len (lineS a b c d k) k).1
  have h7 := h3 k h2 h1
  unfold lineL
  rw [List.length_append]
  omega
end Go.Proofs.YtaimgddhbkcikapDoor
