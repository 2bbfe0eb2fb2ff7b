/-
  The document's table: of each kind its word, the numbers that it names, and the others.
-/
import Derived.Test.YtaimgddhbkcikapDoorD4
namespace Go.Proofs.YtaimgddhbkcikapDoor
open Go Go.RowKit Go.Sort Go.Shelf
open Plain
set_option maxRecDepth 100000

/-- What a slice of numbers holds, in a block of its own or in none. -/
def RowZ (w : World) (v : Value) (l : List Int) : Prop :=
  (l = [] ∧ v = .slice none 0 0) ∨ ∃ b, v = .slice (some ⟨b, 0, none⟩) l.length l.length ∧ w.heap[b]? = some (.cells (l.map fun n => Value.int .i64 n).toArray 3 (0, 0))
theorem RowZ.fst (W : World) (l : List Int) (o : Obj) (b : Nat) (hb : b = W.heap.size) : RowZ (((W.alloc (.cells (l.map fun n => Value.int .i64 n).toArray 3)).alloc o).drew) (.slice (some ⟨b, 0, none⟩) l.length l.length) l := by
  subst hb
  refine .inr ⟨_, rfl, ?_⟩
  show ((W.heap.push _).push _)[W.heap.size]? = _
  rw [Array.getElem?_push_lt (by simp)]
  simp
theorem RowZ.snd (W : World) (l : List Int) (o : Obj) (b : Nat) (hb : b = W.heap.size + 1) : RowZ (((W.alloc o).alloc (.cells (l.map fun n => Value.int .i64 n).toArray 3)).drew) (.slice (some ⟨b, 0, none⟩) l.length l.length) l := by
  subst hb
  refine .inr ⟨_, rfl, ?_⟩
  show ((W.heap.push _).push _)[W.heap.size + 1]? = _
  have : W.heap.size + 1 = (W.heap.push o).size := by simp
  rw [this]
  exact Array.getElem?_push_size
theorem RowZ.one (W : World) (l : List Int) (b : Nat) (hb : b = W.heap.size) : RowZ ((W.alloc (.cells (l.map fun n => Value.int .i64 n).toArray 3)).drew) (.slice (some ⟨b, 0, none⟩) l.length l.length) l := by
  subst hb
  refine .inr ⟨_, rfl, ?_⟩
  show (W.heap.push _)[W.heap.size]? = _
  simp
theorem RowZ.keep {w w' : World} {v : Value} {l : List Int} (h : RowZ w v l) (hb : Below w.heap.size w w') : RowZ w' v l := by
  rcases h with ⟨h1, h2⟩ | ⟨b, h1, h2⟩
  · exact .inl ⟨h1, h2⟩
  · exact .inr ⟨b, h1, (hb.block _ (Array.getElem?_eq_some_iff.1 h2).1).trans h2⟩
/-- The numbers that a kind names .. -/
def numsK (s : Sp) : Nat → List Int
  | 1 => [s.wh, s.it, s.ct]
  | 2 => [s.wh, s.it, s.ct]
  | 3 => [s.wh, s.it, s.ct, s.lf]
  | 4 => [s.wh, s.it, s.id]
  | 5 => [s.wh, s.it, s.id]
  | 6 => [s.wh, s.it, s.ct]
  | 7 => [s.wh, s.lb, s.ky, s.ct]
  | 8 => [s.wh, s.lb, s.ky]
  | 9 => []
  | 10 => [s.id]
  | 11 => [s.id]
  | _ => []
/-- .. and the others. -/
def restK (s : Sp) : Nat → List Int
  | 1 => [s.lf, s.id, s.lb, s.ky]
  | 2 => [s.lf, s.id, s.lb, s.ky]
  | 3 => [s.id, s.lb, s.ky]
  | 4 => [s.ct, s.lf, s.lb, s.ky]
  | 5 => [s.ct, s.lf, s.lb, s.ky]
  | 6 => [s.lf, s.id, s.lb, s.ky]
  | 7 => [s.it, s.lf, s.id]
  | 8 => [s.it, s.ct, s.lf, s.id]
  | 9 => [s.wh, s.it, s.ct, s.lf, s.id, s.lb, s.ky]
  | 10 => [s.wh, s.it, s.ct, s.lf, s.lb, s.ky]
  | 11 => [s.wh, s.it, s.ct, s.lf, s.lb, s.ky]
  | _ => []
/-- What it answers. -/
def NmP (s : Sp) (k : Nat) (w : World) (e : Ending) (w' : World) : Prop := ∃ v1 v2, e = .returned (.tuple #[bs (wordL k), v1, v2]) ∧ RowZ w' v1 (numsK s k) ∧ RowZ w' v2 (restK s k) ∧ Below w.heap.size w w'

set_option maxHeartbeats 4000000 in
theorem named_1 (s1 s2 s3 s4 s5 s6 s7 : Int) (w : World) : Calls Tryd.prog 14 #[.agg (stC ⟨1, s1, s2, s3, s4, s5, s6, s7⟩)] w (NmP ⟨1, s1, s2, s3, s4, s5, s6, s7⟩ 1 w) := by
  obtain ⟨WA, hWA⟩ : ∃ WA, WA = w.alloc (.cells (stC ⟨1, s1, s2, s3, s4, s5, s6, s7⟩) 23) := ⟨_, rfl⟩
  have XA := hid (show BoxS WA w.heap.size ⟨1, s1, s2, s3, s4, s5, s6, s7⟩ by rw [hWA]; unfold BoxS; show (w.heap.push _)[w.heap.size]? = _; simp)
  have BA := hid (show Below w.heap.size w WA by rw [hWA]; exact (Below.refl _ _).alloc (Nat.le_refl _) _)
  go_enter Tryd.func14, Tryd.ntmps14
  go_wp2_with fail
  rw [← hWA]
  clear hWA
  obtain ⟨x0, x1, x2, x3, x4, x5, x6, x7⟩ := XA.out.cell
  go_region_held3 (fun w' => w'.cell? ⟨w.heap.size, 1, none⟩ = some (.int .i64 s1) ∧ w'.cell? ⟨w.heap.size, 2, none⟩ = some (.int .i64 s2) ∧ w'.cell? ⟨w.heap.size, 3, none⟩ = some (.int .i64 s3) ∧ w'.cell? ⟨w.heap.size, 4, none⟩ = some (.int .i64 s4) ∧ w'.cell? ⟨w.heap.size, 5, none⟩ = some (.int .i64 s5) ∧ w'.cell? ⟨w.heap.size, 6, none⟩ = some (.int .i64 s6) ∧ w'.cell? ⟨w.heap.size, 7, none⟩ = some (.int .i64 s7)) (go_keep) (fail)
  all_goals
    go_wp2
    go_ret3
    refine ⟨_, _, rfl, ?_, ?_, ?_⟩
    · first | exact RowZ.fst WA (numsK ⟨1, s1, s2, s3, s4, s5, s6, s7⟩ 1) _ _ rfl | exact RowZ.snd WA (numsK ⟨1, s1, s2, s3, s4, s5, s6, s7⟩ 1) _ _ (by first | rfl | exact Array.size_push _) 
    · first | exact RowZ.one WA (restK ⟨1, s1, s2, s3, s4, s5, s6, s7⟩ 1) _ rfl | exact RowZ.fst WA (restK ⟨1, s1, s2, s3, s4, s5, s6, s7⟩ 1) _ _ rfl | exact RowZ.snd WA (restK ⟨1, s1, s2, s3, s4, s5, s6, s7⟩ 1) _ _ (by first | rfl | exact Array.size_push _)
    · exact below_drewN ((BA.out.alloc BA.out.size _).alloc (BA.out.alloc BA.out.size _).size _) 1

set_option maxHeartbeats 4000000 in
theorem named_2 (s1 s2 s3 s4 s5 s6 s7 : Int) (w : World) : Calls Tryd.prog 14 #[.agg (stC ⟨2, s1, s2, s3, s4, s5, s6, s7⟩)] w (NmP ⟨2, s1, s2, s3, s4, s5, s6, s7⟩ 2 w) := by
  obtain ⟨WA, hWA⟩ : ∃ WA, WA = w.alloc (.cells (stC ⟨2, s1, s2, s3, s4, s5, s6, s7⟩) 23) := ⟨_, rfl⟩
  have XA := hid (show BoxS WA w.heap.size ⟨2, s1, s2, s3, s4, s5, s6, s7⟩ by rw [hWA]; unfold BoxS; show (w.heap.push _)[w.heap.size]? = _; simp)
  have BA := hid (show Below w.heap.size w WA by rw [hWA]; exact (Below.refl _ _).alloc (Nat.le_refl _) _)
  go_enter Tryd.func14, Tryd.ntmps14
  go_wp2_with fail
  rw [← hWA]
  clear hWA
  obtain ⟨x0, x1, x2, x3, x4, x5, x6, x7⟩ := XA.out.cell
  go_region_held3 (fun w' => w'.cell? ⟨w.heap.size, 1, none⟩ = some (.int .i64 s1) ∧ w'.cell? ⟨w.heap.size, 2, none⟩ = some (.int .i64 s2) ∧ w'.cell? ⟨w.heap.size, 3, none⟩ = some (.int .i64 s3) ∧ w'.cell? ⟨w.heap.size, 4, none⟩ = some (.int .i64 s4) ∧ w'.cell? ⟨w.heap.size, 5, none⟩ = some (.int .i64 s5) ∧ w'.cell? ⟨w.heap.size, 6, none⟩ = some (.int .i64 s6) ∧ w'.cell? ⟨w.heap.size, 7, none⟩ = some (.int .i64 s7)) (go_keep) (fail)
  all_goals
    go_wp2
    go_ret3
    refine ⟨_, _, rfl, ?_, ?_, ?_⟩
    · first | exact RowZ.fst WA (numsK ⟨2, s1, s2, s3, s4, s5, s6, s7⟩ 2) _ _ rfl | exact RowZ.snd WA (numsK ⟨2, s1, s2, s3, s4, s5, s6, s7⟩ 2) _ _ (by first | rfl | exact Array.size_push _) 
    · first | exact RowZ.one WA (restK ⟨2, s1, s2, s3, s4, s5, s6, s7⟩ 2) _ rfl | exact RowZ.fst WA (restK ⟨2, s1, s2, s3, s4, s5, s6, s7⟩ 2) _ _ rfl | exact RowZ.snd WA (restK ⟨2, s1, s2, s3, s4, s5, s6, s7⟩ 2) _ _ (by first | rfl | exact Array.size_push _)
    · exact below_drewN ((BA.out.alloc BA.out.size _).alloc (BA.out.alloc BA.out.size _).size _) 1

set_option maxHeartbeats 4000000 in
theorem named_3 (s1 s2 s3 s4 s5 s6 s7 : Int) (w : World) : Calls Tryd.prog 14 #[.agg (stC ⟨3, s1, s2, s3, s4, s5, s6, s7⟩)] w (NmP ⟨3, s1, s2, s3, s4, s5, s6, s7⟩ 3 w) := by
  obtain ⟨WA, hWA⟩ : ∃ WA, WA = w.alloc (.cells (stC ⟨3, s1, s2, s3, s4, s5, s6, s7⟩) 23) := ⟨_, rfl⟩
  have XA := hid (show BoxS WA w.heap.size ⟨3, s1, s2, s3, s4, s5, s6, s7⟩ by rw [hWA]; unfold BoxS; show (w.heap.push _)[w.heap.size]? = _; simp)
  have BA := hid (show Below w.heap.size w WA by rw [hWA]; exact (Below.refl _ _).alloc (Nat.le_refl _) _)
  go_enter Tryd.func14, Tryd.ntmps14
  go_wp2_with fail
  rw [← hWA]
  clear hWA
  obtain ⟨x0, x1, x2, x3, x4, x5, x6, x7⟩ := XA.out.cell
  go_region_held3 (fun w' => w'.cell? ⟨w.heap.size, 1, none⟩ = some (.int .i64 s1) ∧ w'.cell? ⟨w.heap.size, 2, none⟩ = some (.int .i64 s2) ∧ w'.cell? ⟨w.heap.size, 3, none⟩ = some (.int .i64 s3) ∧ w'.cell? ⟨w.heap.size, 4, none⟩ = some (.int .i64 s4) ∧ w'.cell? ⟨w.heap.size, 5, none⟩ = some (.int .i64 s5) ∧ w'.cell? ⟨w.heap.size, 6, none⟩ = some (.int .i64 s6) ∧ w'.cell? ⟨w.heap.size, 7, none⟩ = some (.int .i64 s7)) (go_keep) (fail)
  all_goals
    go_wp2
    go_ret3
    refine ⟨_, _, rfl, ?_, ?_, ?_⟩
    · first | exact RowZ.fst WA (numsK ⟨3, s1, s2, s3, s4, s5, s6, s7⟩ 3) _ _ rfl | exact RowZ.snd WA (numsK ⟨3, s1, s2, s3, s4, s5, s6, s7⟩ 3) _ _ (by first | rfl | exact Array.size_push _) 
    · first | exact RowZ.one WA (restK ⟨3, s1, s2, s3, s4, s5, s6, s7⟩ 3) _ rfl | exact RowZ.fst WA (restK ⟨3, s1, s2, s3, s4, s5, s6, s7⟩ 3) _ _ rfl | exact RowZ.snd WA (restK ⟨3, s1, s2, s3, s4, s5, s6, s7⟩ 3) _ _ (by first | rfl | exact Array.size_push _)
    · exact below_drewN ((BA.out.alloc BA.out.size _).alloc (BA.out.alloc BA.out.size _).size _) 1

set_option maxHeartbeats 4000000 in
theorem named_4 (s1 s2 s3 s4 s5 s6 s7 : Int) (w : World) : Calls Tryd.prog 14 #[.agg (stC ⟨4, s1, s2, s3, s4, s5, s6, s7⟩)] w (NmP ⟨4, s1, s2, s3, s4, s5, s6, s7⟩ 4 w) := by
  obtain ⟨WA, hWA⟩ : ∃ WA, WA = w.alloc (.cells (stC ⟨4, s1, s2, s3, s4, s5, s6, s7⟩) 23) := ⟨_, rfl⟩
  have XA := hid (show BoxS WA w.heap.size ⟨4, s1, s2, s3, s4, s5, s6, s7⟩ by rw [hWA]; unfold BoxS; show (w.heap.push _)[w.heap.size]? = _; simp)
  have BA := hid (show Below w.heap.size w WA by rw [hWA]; exact (Below.refl _ _).alloc (Nat.le_refl _) _)
  go_enter Tryd.func14, Tryd.ntmps14
  go_wp2_with fail
  rw [← hWA]
  clear hWA
  obtain ⟨x0, x1, x2, x3, x4, x5, x6, x7⟩ := XA.out.cell
  go_region_held3 (fun w' => w'.cell? ⟨w.heap.size, 1, none⟩ = some (.int .i64 s1) ∧ w'.cell? ⟨w.heap.size, 2, none⟩ = some (.int .i64 s2) ∧ w'.cell? ⟨w.heap.size, 3, none⟩ = some (.int .i64 s3) ∧ w'.cell? ⟨w.heap.size, 4, none⟩ = some (.int .i64 s4) ∧ w'.cell? ⟨w.heap.size, 5, none⟩ = some (.int .i64 s5) ∧ w'.cell? ⟨w.heap.size, 6, none⟩ = some (.int .i64 s6) ∧ w'.cell? ⟨w.heap.size, 7, none⟩ = some (.int .i64 s7)) (go_keep) (fail)
  all_goals
    go_wp2
    go_ret3
    refine ⟨_, _, rfl, ?_, ?_, ?_⟩
    · first | exact RowZ.fst WA (numsK ⟨4, s1, s2, s3, s4, s5, s6, s7⟩ 4) _ _ rfl | exact RowZ.snd WA (numsK ⟨4, s1, s2, s3, s4, s5, s6, s7⟩ 4) _ _ (by first | rfl | exact Array.size_push _) 
    · first | exact RowZ.one WA (restK ⟨4, s1, s2, s3, s4, s5, s6, s7⟩ 4) _ rfl | exact RowZ.fst WA (restK ⟨4, s1, s2, s3, s4, s5, s6, s7⟩ 4) _ _ rfl | exact RowZ.snd WA (restK ⟨4, s1, s2, s3, s4, s5, s6, s7⟩ 4) _ _ (by first | rfl | exact Array.size_push _)
    · exact below_drewN ((BA.out.alloc BA.out.size _).alloc (BA.out.alloc BA.out.size _).size _) 1

set_option maxHeartbeats 4000000 in
theorem named_5 (s1 s2 s3 s4 s5 s6 s7 : Int) (w : World) : Calls Tryd.prog 14 #[.agg (stC ⟨5, s1, s2, s3, s4, s5, s6, s7⟩)] w (NmP ⟨5, s1, s2, s3, s4, s5, s6, s7⟩ 5 w) := by
  obtain ⟨WA, hWA⟩ : ∃ WA, WA = w.alloc (.cells (stC ⟨5, s1, s2, s3, s4, s5, s6, s7⟩) 23) := ⟨_, rfl⟩
  have XA := hid (show BoxS WA w.heap.size ⟨5, s1, s2, s3, s4, s5, s6, s7⟩ by rw [hWA]; unfold BoxS; show (w.heap.push _)[w.heap.size]? = _; simp)
  have BA := hid (show Below w.heap.size w WA by rw [hWA]; exact (Below.refl _ _).alloc (Nat.le_refl _) _)
  go_enter Tryd.func14, Tryd.ntmps14
  go_wp2_with fail
  rw [← hWA]
  clear hWA
  obtain ⟨x0, x1, x2, x3, x4, x5, x6, x7⟩ := XA.out.cell
  go_region_held3 (fun w' => w'.cell? ⟨w.heap.size, 1, none⟩ = some (.int .i64 s1) ∧ w'.cell? ⟨w.heap.size, 2, none⟩ = some (.int .i64 s2) ∧ w'.cell? ⟨w.heap.size, 3, none⟩ = some (.int .i64 s3) ∧ w'.cell? ⟨w.heap.size, 4, none⟩ = some (.int .i64 s4) ∧ w'.cell? ⟨w.heap.size, 5, none⟩ = some (.int .i64 s5) ∧ w'.cell? ⟨w.heap.size, 6, none⟩ = some (.int .i64 s6) ∧ w'.cell? ⟨w.heap.size, 7, none⟩ = some (.int .i64 s7)) (go_keep) (fail)
  all_goals
    go_wp2
    go_ret3
    refine ⟨_, _, rfl, ?_, ?_, ?_⟩
    · first | exact RowZ.fst WA (numsK ⟨5, s1, s2, s3, s4, s5, s6, s7⟩ 5) _ _ rfl | exact RowZ.snd WA (numsK ⟨5, s1, s2, s3, s4, s5, s6, s7⟩ 5) _ _ (by first | rfl | exact Array.size_push _) 
    · first | exact RowZ.one WA (restK ⟨5, s1, s2, s3, s4, s5, s6, s7⟩ 5) _ rfl | exact RowZ.fst WA (restK ⟨5, s1, s2, s3, s4, s5, s6, s7⟩ 5) _ _ rfl | exact RowZ.snd WA (restK ⟨5, s1, s2, s3, s4, s5, s6, s7⟩ 5) _ _ (by first | rfl | exact Array.size_push _)
    · exact below_drewN ((BA.out.alloc BA.out.size _).alloc (BA.out.alloc BA.out.size _).size _) 1

set_option maxHeartbeats 4000000 in
theorem named_6 (s1 s2 s3 s4 s5 s6 s7 : Int) (w : World) : Calls Tryd.prog 14 #[.agg (stC ⟨6, s1, s2, s3, s4, s5, s6, s7⟩)] w (NmP ⟨6, s1, s2, s3, s4, s5, s6, s7⟩ 6 w) := by
  obtain ⟨WA, hWA⟩ : ∃ WA, WA = w.alloc (.cells (stC ⟨6, s1, s2, s3, s4, s5, s6, s7⟩) 23) := ⟨_, rfl⟩
  have XA := hid (show BoxS WA w.heap.size ⟨6, s1, s2, s3, s4, s5, s6, s7⟩ by rw [hWA]; unfold BoxS; show (w.heap.push _)[w.heap.size]? = _; simp)
  have BA := hid (show Below w.heap.size w WA by rw [hWA]; exact (Below.refl _ _).alloc (Nat.le_refl _) _)
  go_enter Tryd.func14, Tryd.ntmps14
  go_wp2_with fail
  rw [← hWA]
  clear hWA
  obtain ⟨x0, x1, x2, x3, x4, x5, x6, x7⟩ := XA.out.cell
  go_region_held3 (fun w' => w'.cell? ⟨w.heap.size, 1, none⟩ = some (.int .i64 s1) ∧ w'.cell? ⟨w.heap.size, 2, none⟩ = some (.int .i64 s2) ∧ w'.cell? ⟨w.heap.size, 3, none⟩ = some (.int .i64 s3) ∧ w'.cell? ⟨w.heap.size, 4, none⟩ = some (.int .i64 s4) ∧ w'.cell? ⟨w.heap.size, 5, none⟩ = some (.int .i64 s5) ∧ w'.cell? ⟨w.heap.size, 6, none⟩ = some (.int .i64 s6) ∧ w'.cell? ⟨w.heap.size, 7, none⟩ = some (.int .i64 s7)) (go_keep) (fail)
  all_goals
    go_wp2
    go_ret3
    refine ⟨_, _, rfl, ?_, ?_, ?_⟩
    · first | exact RowZ.fst WA (numsK ⟨6, s1, s2, s3, s4, s5, s6, s7⟩ 6) _ _ rfl | exact RowZ.snd WA (numsK ⟨6, s1, s2, s3, s4, s5, s6, s7⟩ 6) _ _ (by first | rfl | exact Array.size_push _) 
    · first | exact RowZ.one WA (restK ⟨6, s1, s2, s3, s4, s5, s6, s7⟩ 6) _ rfl | exact RowZ.fst WA (restK ⟨6, s1, s2, s3, s4, s5, s6, s7⟩ 6) _ _ rfl | exact RowZ.snd WA (restK ⟨6, s1, s2, s3, s4, s5, s6, s7⟩ 6) _ _ (by first | rfl | exact Array.size_push _)
    · exact below_drewN ((BA.out.alloc BA.out.size _).alloc (BA.out.alloc BA.out.size _).size _) 1

set_option maxHeartbeats 4000000 in
theorem named_7 (s1 s2 s3 s4 s5 s6 s7 : Int) (w : World) : Calls Tryd.prog 14 #[.agg (stC ⟨7, s1, s2, s3, s4, s5, s6, s7⟩)] w (NmP ⟨7, s1, s2, s3, s4, s5, s6, s7⟩ 7 w) := by
  obtain ⟨WA, hWA⟩ : ∃ WA, WA = w.alloc (.cells (stC ⟨7, s1, s2, s3, s4, s5, s6, s7⟩) 23) := ⟨_, rfl⟩
  have XA := hid (show BoxS WA w.heap.size ⟨7, s1, s2, s3, s4, s5, s6, s7⟩ by rw [hWA]; unfold BoxS; show (w.heap.push _)[w.heap.size]? = _; simp)
  have BA := hid (show Below w.heap.size w WA by rw [hWA]; exact (Below.refl _ _).alloc (Nat.le_refl _) _)
  go_enter Tryd.func14, Tryd.ntmps14
  go_wp2_with fail
  rw [← hWA]
  clear hWA
  obtain ⟨x0, x1, x2, x3, x4, x5, x6, x7⟩ := XA.out.cell
  go_region_held3 (fun w' => w'.cell? ⟨w.heap.size, 1, none⟩ = some (.int .i64 s1) ∧ w'.cell? ⟨w.heap.size, 2, none⟩ = some (.int .i64 s2) ∧ w'.cell? ⟨w.heap.size, 3, none⟩ = some (.int .i64 s3) ∧ w'.cell? ⟨w.heap.size, 4, none⟩ = some (.int .i64 s4) ∧ w'.cell? ⟨w.heap.size, 5, none⟩ = some (.int .i64 s5) ∧ w'.cell? ⟨w.heap.size, 6, none⟩ = some (.int .i64 s6) ∧ w'.cell? ⟨w.heap.size, 7, none⟩ = some (.int .i64 s7)) (go_keep) (fail)
  all_goals
    go_wp2
    go_ret3
    refine ⟨_, _, rfl, ?_, ?_, ?_⟩
    · first | exact RowZ.fst WA (numsK ⟨7, s1, s2, s3, s4, s5, s6, s7⟩ 7) _ _ rfl | exact RowZ.snd WA (numsK ⟨7, s1, s2, s3, s4, s5, s6, s7⟩ 7) _ _ (by first | rfl | exact Array.size_push _) 
    · first | exact RowZ.one WA (restK ⟨7, s1, s2, s3, s4, s5, s6, s7⟩ 7) _ rfl | exact RowZ.fst WA (restK ⟨7, s1, s2, s3, s4, s5, s6, s7⟩ 7) _ _ rfl | exact RowZ.snd WA (restK ⟨7, s1, s2, s3, s4, s5, s6, s7⟩ 7) _ _ (by first | rfl | exact Array.size_push _)
    · exact below_drewN ((BA.out.alloc BA.out.size _).alloc (BA.out.alloc BA.out.size _).size _) 1

set_option maxHeartbeats 4000000 in
theorem named_8 (s1 s2 s3 s4 s5 s6 s7 : Int) (w : World) : Calls Tryd.prog 14 #[.agg (stC ⟨8, s1, s2, s3, s4, s5, s6, s7⟩)] w (NmP ⟨8, s1, s2, s3, s4, s5, s6, s7⟩ 8 w) := by
  obtain ⟨WA, hWA⟩ : ∃ WA, WA = w.alloc (.cells (stC ⟨8, s1, s2, s3, s4, s5, s6, s7⟩) 23) := ⟨_, rfl⟩
  have XA := hid (show BoxS WA w.heap.size ⟨8, s1, s2, s3, s4, s5, s6, s7⟩ by rw [hWA]; unfold BoxS; show (w.heap.push _)[w.heap.size]? = _; simp)
  have BA := hid (show Below w.heap.size w WA by rw [hWA]; exact (Below.refl _ _).alloc (Nat.le_refl _) _)
  go_enter Tryd.func14, Tryd.ntmps14
  go_wp2_with fail
  rw [← hWA]
  clear hWA
  obtain ⟨x0, x1, x2, x3, x4, x5, x6, x7⟩ := XA.out.cell
  go_region_held3 (fun w' => w'.cell? ⟨w.heap.size, 1, none⟩ = some (.int .i64 s1) ∧ w'.cell? ⟨w.heap.size, 2, none⟩ = some (.int .i64 s2) ∧ w'.cell? ⟨w.heap.size, 3, none⟩ = some (.int .i64 s3) ∧ w'.cell? ⟨w.heap.size, 4, none⟩ = some (.int .i64 s4) ∧ w'.cell? ⟨w.heap.size, 5, none⟩ = some (.int .i64 s5) ∧ w'.cell? ⟨w.heap.size, 6, none⟩ = some (.int .i64 s6) ∧ w'.cell? ⟨w.heap.size, 7, none⟩ = some (.int .i64 s7)) (go_keep) (fail)
  all_goals
    go_wp2
    go_ret3
    refine ⟨_, _, rfl, ?_, ?_, ?_⟩
    · first | exact RowZ.fst WA (numsK ⟨8, s1, s2, s3, s4, s5, s6, s7⟩ 8) _ _ rfl | exact RowZ.snd WA (numsK ⟨8, s1, s2, s3, s4, s5, s6, s7⟩ 8) _ _ (by first | rfl | exact Array.size_push _) 
    · first | exact RowZ.one WA (restK ⟨8, s1, s2, s3, s4, s5, s6, s7⟩ 8) _ rfl | exact RowZ.fst WA (restK ⟨8, s1, s2, s3, s4, s5, s6, s7⟩ 8) _ _ rfl | exact RowZ.snd WA (restK ⟨8, s1, s2, s3, s4, s5, s6, s7⟩ 8) _ _ (by first | rfl | exact Array.size_push _)
    · exact below_drewN ((BA.out.alloc BA.out.size _).alloc (BA.out.alloc BA.out.size _).size _) 1

set_option maxHeartbeats 4000000 in
theorem named_9 (s1 s2 s3 s4 s5 s6 s7 : Int) (w : World) : Calls Tryd.prog 14 #[.agg (stC ⟨9, s1, s2, s3, s4, s5, s6, s7⟩)] w (NmP ⟨9, s1, s2, s3, s4, s5, s6, s7⟩ 9 w) := by
  obtain ⟨WA, hWA⟩ : ∃ WA, WA = w.alloc (.cells (stC ⟨9, s1, s2, s3, s4, s5, s6, s7⟩) 23) := ⟨_, rfl⟩
  have XA := hid (show BoxS WA w.heap.size ⟨9, s1, s2, s3, s4, s5, s6, s7⟩ by rw [hWA]; unfold BoxS; show (w.heap.push _)[w.heap.size]? = _; simp)
  have BA := hid (show Below w.heap.size w WA by rw [hWA]; exact (Below.refl _ _).alloc (Nat.le_refl _) _)
  go_enter Tryd.func14, Tryd.ntmps14
  go_wp2_with fail
  rw [← hWA]
  clear hWA
  obtain ⟨x0, x1, x2, x3, x4, x5, x6, x7⟩ := XA.out.cell
  go_region_held3 (fun w' => w'.cell? ⟨w.heap.size, 1, none⟩ = some (.int .i64 s1) ∧ w'.cell? ⟨w.heap.size, 2, none⟩ = some (.int .i64 s2) ∧ w'.cell? ⟨w.heap.size, 3, none⟩ = some (.int .i64 s3) ∧ w'.cell? ⟨w.heap.size, 4, none⟩ = some (.int .i64 s4) ∧ w'.cell? ⟨w.heap.size, 5, none⟩ = some (.int .i64 s5) ∧ w'.cell? ⟨w.heap.size, 6, none⟩ = some (.int .i64 s6) ∧ w'.cell? ⟨w.heap.size, 7, none⟩ = some (.int .i64 s7)) (go_keep) (fail)
  all_goals
    go_wp2
    go_ret3
    refine ⟨_, _, rfl, ?_, ?_, ?_⟩
    · exact .inl ⟨rfl, rfl⟩
    · first | exact RowZ.one WA (restK ⟨9, s1, s2, s3, s4, s5, s6, s7⟩ 9) _ rfl | exact RowZ.fst WA (restK ⟨9, s1, s2, s3, s4, s5, s6, s7⟩ 9) _ _ rfl | exact RowZ.snd WA (restK ⟨9, s1, s2, s3, s4, s5, s6, s7⟩ 9) _ _ (by first | rfl | exact Array.size_push _)
    · exact below_drewN (BA.out.alloc BA.out.size _) 1

set_option maxHeartbeats 4000000 in
theorem named_10 (s1 s2 s3 s4 s5 s6 s7 : Int) (w : World) : Calls Tryd.prog 14 #[.agg (stC ⟨10, s1, s2, s3, s4, s5, s6, s7⟩)] w (NmP ⟨10, s1, s2, s3, s4, s5, s6, s7⟩ 10 w) := by
  obtain ⟨WA, hWA⟩ : ∃ WA, WA = w.alloc (.cells (stC ⟨10, s1, s2, s3, s4, s5, s6, s7⟩) 23) := ⟨_, rfl⟩
  have XA := hid (show BoxS WA w.heap.size ⟨10, s1, s2, s3, s4, s5, s6, s7⟩ by rw [hWA]; unfold BoxS; show (w.heap.push _)[w.heap.size]? = _; simp)
  have BA := hid (show Below w.heap.size w WA by rw [hWA]; exact (Below.refl _ _).alloc (Nat.le_refl _) _)
  go_enter Tryd.func14, Tryd.ntmps14
  go_wp2_with fail
  rw [← hWA]
  clear hWA
  obtain ⟨x0, x1, x2, x3, x4, x5, x6, x7⟩ := XA.out.cell
  go_region_held3 (fun w' => w'.cell? ⟨w.heap.size, 1, none⟩ = some (.int .i64 s1) ∧ w'.cell? ⟨w.heap.size, 2, none⟩ = some (.int .i64 s2) ∧ w'.cell? ⟨w.heap.size, 3, none⟩ = some (.int .i64 s3) ∧ w'.cell? ⟨w.heap.size, 4, none⟩ = some (.int .i64 s4) ∧ w'.cell? ⟨w.heap.size, 5, none⟩ = some (.int .i64 s5) ∧ w'.cell? ⟨w.heap.size, 6, none⟩ = some (.int .i64 s6) ∧ w'.cell? ⟨w.heap.size, 7, none⟩ = some (.int .i64 s7)) (go_keep) (fail)
  all_goals
    go_wp2
    go_ret3
    refine ⟨_, _, rfl, ?_, ?_, ?_⟩
    · first | exact RowZ.fst WA (numsK ⟨10, s1, s2, s3, s4, s5, s6, s7⟩ 10) _ _ rfl | exact RowZ.snd WA (numsK ⟨10, s1, s2, s3, s4, s5, s6, s7⟩ 10) _ _ (by first | rfl | exact Array.size_push _) 
    · first | exact RowZ.one WA (restK ⟨10, s1, s2, s3, s4, s5, s6, s7⟩ 10) _ rfl | exact RowZ.fst WA (restK ⟨10, s1, s2, s3, s4, s5, s6, s7⟩ 10) _ _ rfl | exact RowZ.snd WA (restK ⟨10, s1, s2, s3, s4, s5, s6, s7⟩ 10) _ _ (by first | rfl | exact Array.size_push _)
    · exact below_drewN ((BA.out.alloc BA.out.size _).alloc (BA.out.alloc BA.out.size _).size _) 1

set_option maxHeartbeats 4000000 in
theorem named_11 (s1 s2 s3 s4 s5 s6 s7 : Int) (w : World) : Calls Tryd.prog 14 #[.agg (stC ⟨11, s1, s2, s3, s4, s5, s6, s7⟩)] w (NmP ⟨11, s1, s2, s3, s4, s5, s6, s7⟩ 11 w) := by
  obtain ⟨WA, hWA⟩ : ∃ WA, WA = w.alloc (.cells (stC ⟨11, s1, s2, s3, s4, s5, s6, s7⟩) 23) := ⟨_, rfl⟩
  have XA := hid (show BoxS WA w.heap.size ⟨11, s1, s2, s3, s4, s5, s6, s7⟩ by rw [hWA]; unfold BoxS; show (w.heap.push _)[w.heap.size]? = _; simp)
  have BA := hid (show Below w.heap.size w WA by rw [hWA]; exact (Below.refl _ _).alloc (Nat.le_refl _) _)
  go_enter Tryd.func14, Tryd.ntmps14
  go_wp2_with fail
  rw [← hWA]
  clear hWA
  obtain ⟨x0, x1, x2, x3, x4, x5, x6, x7⟩ := XA.out.cell
  go_region_held3 (fun w' => w'.cell? ⟨w.heap.size, 1, none⟩ = some (.int .i64 s1) ∧ w'.cell? ⟨w.heap.size, 2, none⟩ = some (.int .i64 s2) ∧ w'.cell? ⟨w.heap.size, 3, none⟩ = some (.int .i64 s3) ∧ w'.cell? ⟨w.heap.size, 4, none⟩ = some (.int .i64 s4) ∧ w'.cell? ⟨w.heap.size, 5, none⟩ = some (.int .i64 s5) ∧ w'.cell? ⟨w.heap.size, 6, none⟩ = some (.int .i64 s6) ∧ w'.cell? ⟨w.heap.size, 7, none⟩ = some (.int .i64 s7)) (go_keep) (fail)
  all_goals
    go_wp2
    go_ret3
    refine ⟨_, _, rfl, ?_, ?_, ?_⟩
    · first | exact RowZ.fst WA (numsK ⟨11, s1, s2, s3, s4, s5, s6, s7⟩ 11) _ _ rfl | exact RowZ.snd WA (numsK ⟨11, s1, s2, s3, s4, s5, s6, s7⟩ 11) _ _ (by first | rfl | exact Array.size_push _) 
    · first | exact RowZ.one WA (restK ⟨11, s1, s2, s3, s4, s5, s6, s7⟩ 11) _ rfl | exact RowZ.fst WA (restK ⟨11, s1, s2, s3, s4, s5, s6, s7⟩ 11) _ _ rfl | exact RowZ.snd WA (restK ⟨11, s1, s2, s3, s4, s5, s6, s7⟩ 11) _ _ (by first | rfl | exact Array.size_push _)
    · exact below_drewN ((BA.out.alloc BA.out.size _).alloc (BA.out.alloc BA.out.size _).size _) 1

theorem named_0 (s : Sp) (w : World) (h : badK s = true) : Calls Tryd.prog 14 #[.agg (stC s)] w (NmP s 0 w) := by
  obtain ⟨sk, s1, s2, s3, s4, s5, s6, s7⟩ := s
  have hk : sk < 1 ∨ 11 < sk := by simp [badK] at h; omega
  have n1 : (sk == 1) = false := by rw [beq_eq_false_iff_ne]; omega
  have n2 : (sk == 2) = false := by rw [beq_eq_false_iff_ne]; omega
  have n3 : (sk == 3) = false := by rw [beq_eq_false_iff_ne]; omega
  have n4 : (sk == 4) = false := by rw [beq_eq_false_iff_ne]; omega
  have n5 : (sk == 5) = false := by rw [beq_eq_false_iff_ne]; omega
  have n6 : (sk == 6) = false := by rw [beq_eq_false_iff_ne]; omega
  have n7 : (sk == 7) = false := by rw [beq_eq_false_iff_ne]; omega
  have n8 : (sk == 8) = false := by rw [beq_eq_false_iff_ne]; omega
  have n9 : (sk == 9) = false := by rw [beq_eq_false_iff_ne]; omega
  have n10 : (sk == 10) = false := by rw [beq_eq_false_iff_ne]; omega
  have n11 : (sk == 11) = false := by rw [beq_eq_false_iff_ne]; omega
  clear h hk
  go_enter Tryd.func14, Tryd.ntmps14
  go_wp2
  go_ret3
  exact ⟨_, _, rfl, .inl ⟨rfl, rfl⟩, .inl ⟨rfl, rfl⟩, (Below.refl _ _).alloc (Nat.le_refl _) _⟩
/-- The kind, where it is one; 0 where it is none. -/
def kindN (s : Sp) : Nat := if badK s then 0 else s.kd.toNat
theorem named_c (s : Sp) (w : World) : Calls Tryd.prog 14 #[.agg (stC s)] w (NmP s (kindN s) w) := by
  unfold kindN
  by_cases h : badK s = true
  · rw [if_pos h]
    exact named_0 s w h
  · rw [if_neg h]
    have h' : badK s = false := by simpa using h
    have hk : 1 ≤ s.kd ∧ s.kd ≤ 11 := by simp [badK] at h'; omega
    obtain ⟨sk, s1, s2, s3, s4, s5, s6, s7⟩ := s
    simp only at hk
    have : sk = 1 ∨ sk = 2 ∨ sk = 3 ∨ sk = 4 ∨ sk = 5 ∨ sk = 6 ∨ sk = 7 ∨ sk = 8 ∨ sk = 9 ∨ sk = 10 ∨ sk = 11 := by omega
    rcases this with rfl | rfl | rfl | rfl | rfl | rfl | rfl | rfl | rfl | rfl | rfl
    · exact named_1 s1 s2 s3 s4 s5 s6 s7 w
    · exact named_2 s1 s2 s3 s4 s5 s6 s7 w
    · exact named_3 s1 s2 s3 s4 s5 s6 s7 w
    · exact named_4 s1 s2 s3 s4 s5 s6 s7 w
    · exact named_5 s1 s2 s3 s4 s5 s6 s7 w
    · exact named_6 s1 s2 s3 s4 s5 s6 s7 w
    · exact named_7 s1 s2 s3 s4 s5 s6 s7 w
    · exact named_8 s1 s2 s3 s4 s5 s6 s7 w
    · exact named_9 s1 s2 s3 s4 s5 s6 s7 w
    · exact named_10 s1 s2 s3 s4 s5 s6 s7 w
    · exact named_11 s1 s2 s3 s4 s5 s6 s7 w
end Go.Proofs.YtaimgddhbkcikapDoor
