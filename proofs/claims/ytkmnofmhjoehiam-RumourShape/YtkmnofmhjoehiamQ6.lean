/-
  frame: pack, unpack.
-/
import Derived.Test.YtkmnofmhjoehiamQ4
import Derived.Test.YtkmnofmhjoehiamQ5
import Derived.Test.YtkmnofmhjoehiamUnpack
import Derived.Laws.MakeOwn
namespace Go.Proofs.Ytkmnofmhjoehiam
open Go.RowKit Go.Shelf

theorem Try.infoFieldQ : (Try.prog.info? 71).map (fun i => (i.zero, i.size, i.bytes)) = some (some (.agg #[.int .i64 0, .int .i64 0]), 2, 16) := by kernel_rfl
theorem make_F (m : Nat) (hm : m ≤ 1000) : ∃ cur : Array Value, cur.size = m * 2 ∧ (∀ i, i < m * 2 → cur[i]? = some (.int .i64 0)) ∧ ∀ w : World, (Instr.makeSlice 69 (.int .i64 (m : Int)) (.int .i64 (m : Int))).run Try.prog w = .ok (.slice (some ⟨w.heap.size, 0, none⟩) m m) (w.alloc (.cells cur 71)) := by
  obtain ⟨i, hi, hzz⟩ := Option.map_eq_some_iff.1 Try.infoFieldQ
  simp only [Prod.mk.injEq] at hzz
  obtain ⟨hz, hs, hb⟩ := hzz
  refine ⟨madeCells #[.int .i64 0, .int .i64 0] (m * 2), size_madeCells _ _, fun i hi => ?_, fun w => ?_⟩
  · have h8 : i % 2 = 0 ∨ i % 2 = 1 := by omega
    unfold madeCells
    rw [Array.getElem?_map, Array.getElem?_eq_getElem (by simpa using hi)]
    simp only [Array.getElem_range, Option.map_some, List.size_toArray, List.length_cons, List.length_nil]
    rcases h8 with h | h <;> rw [h] <;> rfl
  · have hr := run_make (P := Try.prog) w 69 71 i _ Try.underlying69 hi hz .i64 .i64 m m (by omega) (Int.le_refl _) (by rw [hb]; omega) (by omega)
    simp only [Int.toNat_natCast, hs] at hr
    exact hr
/-- The fields that are laid so far. -/
def fldF (wd : Int) (vs : List Int) (k j : Nat) : Value := if j < k * 2 then (if j % 2 = 0 then .int .i64 wd else .int .i64 (vs.getD (j / 2) 0)) else .int .i64 0
/-- Numbers, as fields of one width. -/
def fldL (wd : Int) (vs : List Int) : List (Int × Int) := vs.map fun x => (wd, x)
theorem fldL_len (wd : Int) (vs : List Int) : (fldL wd vs).length = vs.length := by simp [fldL]
theorem fldL_at (wd : Int) (vs : List Int) (j : Nat) (h : j < vs.length) : (fldL wd vs).getD j (0, 0) = (wd, vs.getD j 0) := by simp [fldL, h]
theorem fld_seg {w : World} {g : Nat} {wd : Int} {vs : List Int} (h : w.rowIs g 71 (vs.length * 2) (fldF wd vs vs.length)) (c : Nat) : SegF w (.slice (some ⟨g, 0, none⟩) vs.length c) (fldL wd vs) := by
  refine .inr ⟨g, 0, c, by rw [fldL_len], fun j hj => ?_⟩
  rw [fldL_len] at hj
  rw [fldL_at wd vs j hj, Nat.zero_add]
  refine ⟨?_, ?_⟩
  · rw [h.cell (i := j * 2) (by omega)]
    unfold fldF
    rw [if_pos (by omega), if_pos (by omega)]
  · rw [h.cell (i := j * 2 + 1) (by omega)]
    unfold fldF
    rw [if_pos (by omega), if_neg (by omega), show (j * 2 + 1) / 2 = j by omega]
theorem fld_step {wr : World} {g k : Nat} {wd x : Int} {vs : List Int} (hx : vs.getD k 0 = x) (h : wr.rowIs g 71 (vs.length * 2) (fldF wd vs k)) :
    ((wr.setCell ⟨g, k * 2, none⟩ (.int .i64 wd)).setCell ⟨g, k * 2 + 1, none⟩ (.int .i64 x)).rowIs g 71 (vs.length * 2) (fldF wd vs (k + 1)) := by
  refine ((h.set (k * 2) (.int .i64 wd)).set (k * 2 + 1) (.int .i64 x)).congr fun j _ => ?_
  unfold fldF
  by_cases e1 : j = k * 2 + 1
  · subst e1
    rw [if_pos rfl, if_pos (by omega), if_neg (by omega), show (k * 2 + 1) / 2 = k by omega, hx]
  · rw [if_neg e1]
    by_cases e0 : j = k * 2
    · subst e0
      rw [if_pos rfl, if_pos (by omega), if_pos (by omega)]
    · rw [if_neg e0]
      by_cases e2 : j < k * 2
      · simp only [if_pos e2, if_pos (show j < (k + 1) * 2 by omega)]
      · simp only [if_neg e2, if_neg (show ¬ j < (k + 1) * 2 by omega)]

set_option maxHeartbeats 2000000 in
theorem fpack_c (wd : Int) (v : Value) (vs : List Int) (hm : vs.length ≤ 1000) (w : World) (hs : Seg w v vs) (hl : Lies w.heap.size v) :
    Calls Try.prog 20 #[.int .i64 wd, v] w fun e w' => ∃ u, e = .returned (.tuple #[u, .int .i64 (Plain.packE (fldL wd vs) : Nat)]) ∧ SegB w' u (Plain.packB (fldL wd vs)) ∧ Lies w'.heap.size u ∧ Below w.heap.size w w' := by
  obtain ⟨p, c, rfl⟩ := seg_len hs
  have HS := hid (seg_at hs)
  have HL := hid hl
  obtain ⟨cur, sz, hz, hmk⟩ := make_F vs.length hm
  have R0 := hid (show (w.alloc (.cells cur 71)).rowIs w.heap.size 71 (vs.length * 2) (fldF wd vs 0) from ⟨cur, Deep.blk_alloc_new _ _, sz, fun i hi => by unfold fldF; rw [if_neg (by omega)]; exact hz i hi⟩)
  have HP := hid (fun (u : Value) (W : World) (h : SegF W u (fldL wd vs)) (hv : Lies W.heap.size u) => pack_any u (fldL wd vs) (by rw [fldL_len]; omega) W h hv)
  clear hs hl sz hz
  go_enter Try.func20, Try.ntmps20
  go_wp2
  clear hmk
  go_loopg [7, 8, 14] vs.length (fun gg _ _ s14 wr => ∃ k : Nat, k ≤ vs.length ∧ vs.length - k ≤ gg ∧ s14 = .int .i64 k ∧ Aside (wr.rowIs w.heap.size 71 (vs.length * 2) (fldF wd vs k)) ∧ Aside (Below w.heap.size w wr))
  case atStart => exact ⟨0, Nat.zero_le _, by omega, rfl, R0.out, (show Aside _ from (Below.refl _ _).alloc (Nat.le_refl _) _)⟩
  case round =>
    obtain ⟨k, hk, hg, rfl, A, BW⟩ := hrel
    by_cases hlt : k < vs.length
    · have hltz : (k : Int) < (vs.length : Int) := by omega
      obtain ⟨b, off, rfl, hc⟩ := HS.out (by omega)
      have c0 : wr.cell? ⟨b, off + k, none⟩ = some (.int .i64 (vs.getD k 0)) := (BW.out.cell (p := ⟨b, off + k, none⟩) (HL.out ⟨b, off, none⟩ vs.length c rfl (by omega))).trans (hc k hlt)
      clear hc
      generalize hy : vs.getD k 0 = y at c0
      have HY := hid hy
      clear hy
      have f0 := A.out.frozen (k * 2)
      have f1 := A.out.frozen (k * 2 + 1)
      have l0 := A.out.cell (i := k * 2) (by omega)
      have l1 := A.out.cell (i := k * 2 + 1) (by omega)
      have hlt2 := A.out.lt
      have R := hid (fld_step HY.out A.out)
      have RB := hid ((BW.out.setCell (p := ⟨w.heap.size, k * 2, none⟩) (Nat.le_refl _) (.int .i64 wd)).setCell (p := ⟨w.heap.size, k * 2 + 1, none⟩) (Nat.le_refl _) (.int .i64 y))
      go_wp2
      go_roundg (vs.length - (k + 1))
      case measure => omega
      case rel => exact ⟨k + 1, by omega, by omega, by go_num, (show Aside _ from R.out), (show Aside _ from RB.out)⟩
    · have hltz : ¬ (k : Int) < (vs.length : Int) := by omega
      have ek : k = vs.length := by omega
      subst ek
      have K := HP.out _ wr (fld_seg A.out vs.length) (lies_at A.out.lt)
      go_wp2_with fail
      refine K.mono ?_
      rintro e w' ⟨u, rfl, h1, h2, h3⟩
      have R := hid (And.intro h1 (And.intro h2 (BW.out.trans (h3.mono BW.out.size))))
      clear h1 h2 h3 K
      go_wp2
      go_ret2
      exact ⟨u, rfl, R.out⟩

set_option maxHeartbeats 2000000 in
theorem funpack_c (wd : Int) (n : Nat) (hn : Cnt n) (u : Value) (bl : List Nat) (hbl : ∀ x ∈ bl, x < 256) (hb : bl.length ≤ 9223372036854775807) (w : World) (hs : SegB w u bl) (hl : Lies w.heap.size u) :
    Calls Try.prog 24 #[.int .i64 wd, .int .i64 n, u] w fun e w' => ∃ r, e = .returned (.tuple #[r, .int .i64 (Plain.unpackE (List.replicate n wd) bl : Nat)]) ∧ Seg w' r (Plain.unpackI (List.replicate n wd) bl) ∧ Lies w'.heap.size r ∧ Below w.heap.size w w' := by
  obtain ⟨W, hW⟩ : ∃ W, W = w.alloc (.cells #[.int .i64 wd] 3) := ⟨_, rfl⟩
  have bA : Below w.heap.size w W := by rw [hW]; exact (Below.refl _ _).alloc (Nat.le_refl _) _
  have c0 : W.cell? ⟨w.heap.size, 0, none⟩ = some (.int .i64 wd) := by rw [hW, World.cell?_alloc_at _ _ _ _ rfl]; rfl
  have K := repeat_any w.heap.size n wd hn W c0
  have HU := hid (fun (v : Value) (X : World) (b : Below w.heap.size w X) (h : Seg X v (List.replicate n wd)) (hv : Lies X.heap.size v) => unpack_any v u (List.replicate n wd) bl hbl (by rw [List.length_replicate]; have := hn.le; omega) hb X h hv (hs.below b hl) (hl.mono b.size))
  have HB := hid bA
  clear bA c0 hs hl hbl hb
  rw [hW] at K
  have HW := hid hW
  clear hW
  go_enter Try.func24, Try.ntmps24
  go_wp2_with fail
  refine K.mono ?_
  rintro e w1 ⟨v, rfl, h1, h2, h3⟩
  rw [← HW.out] at h3
  have B1 := hid (HB.out.trans (h3.mono HB.out.size))
  have K2 := HU.out v w1 B1.out h1 h2
  clear K HU h1 h2 h3
  go_wp2_with fail
  refine K2.mono ?_
  rintro e w2 ⟨r, rfl, h1, h2, h3⟩
  have R := hid (And.intro h1 (And.intro h2 (B1.out.trans (h3.mono B1.out.size))))
  clear h1 h2 h3 K2
  go_wp2
  go_ret2
  exact ⟨r, rfl, R.out⟩
end Go.Proofs.Ytkmnofmhjoehiam
