/-
  Bytes that are copied into a row of one's own.
-/
import Derived.Test.YtnnicibkmbidpacKp
import Derived.Test.YtnnicibkmbidpacSameBk
import Derived.Laws.CopyOwn
namespace Go.Proofs.Ytnnicibkmbidpac
open Go.RowKit

namespace Plain
/-- The first n of some bytes, with zeros behind them. -/
def pad (bl : List Nat) (n : Nat) : List Nat := (List.range n).map (fun j => bl.getD j 0)
theorem pad_len (bl : List Nat) (n : Nat) : (pad bl n).length = n := by simp [pad]
theorem pad_get (bl : List Nat) (n j : Nat) (h : j < n) : (pad bl n).getD j 0 = bl.getD j 0 := by simp [pad, h]
theorem pad_lt (bl : List Nat) (n : Nat) (h : ∀ x ∈ bl, x < 256) : ∀ x ∈ pad bl n, x < 256 := by
  intro x hx
  simp only [pad, List.mem_map] at hx
  obtain ⟨j, _, rfl⟩ := hx
  by_cases hj : j < bl.length
  · rw [List.getD_eq_getElem?_getD, List.getElem?_eq_getElem hj]; exact h _ (List.getElem_mem hj)
  · rw [List.getD_eq_getElem?_getD, List.getElem?_eq_none (by omega)]; simp
theorem wl_n (l : List Int) : szN (wlist l) ≤ 150 := by
  have h := szE_zero _ (wl_sz l)
  have h2 := bitsN_le (wlist l) (wlist_ok l)
  have h3 := wlist_len l
  omega
end Plain

/-- Bytes, as values. -/
def zvals (bl : List Nat) : List Value := bl.map (fun x : Nat => Value.int .u8 x)
theorem zvals_len (bl : List Nat) : (zvals bl).length = bl.length := by simp [zvals]
theorem zvals_get (bl : List Nat) (j : Nat) (h : j < bl.length) : (zvals bl)[j]? = some (.int .u8 (bl.getD j 0 : Nat)) := by
  simp [zvals, h]
theorem zvals_one (bl : List Nat) : ∀ u ∈ zvals bl, u.oneCell' = true := by
  intro u hu
  obtain ⟨x, _, rfl⟩ := List.mem_map.1 hu
  rfl

theorem segB_zvals {w : World} {base : Nat} {v : Value} {bl : List Nat} (h : w.ownsRow base 5 1 v bl.length (zvals bl)) : SegB w v bl := by
  rcases h.2 with ⟨rfl, e⟩ | ⟨g, cap, cur, rfl, _, _, _, _, _, _⟩
  · exact .inl ⟨List.length_eq_zero_iff.1 e, none, 0, rfl⟩
  · refine .inr ⟨g, 0, cap, rfl, fun j hj => ?_⟩
    have := h.cells (g := g) rfl j _ (zvals_get bl j hj)
    by_cases h0 : j = 0
    · subst h0; simpa [Addr.add] using this
    · simpa [Addr.add, h0] using this

/-- The cells of a slice that holds bytes, as append asks for them. -/
theorem segB_src {w : World} {b o c : Nat} {bl : List Nat} (h : SegB w (.slice (some ⟨b, o, none⟩) bl.length c) bl) : ∀ j u, (zvals bl)[j]? = some u → w.cell? ((⟨b, o, none⟩ : Addr).add j) = some u := by
  intro j u hu
  have hj : j < bl.length := by
    rcases Nat.lt_or_ge j bl.length with h1 | h1
    · exact h1
    · rw [List.getElem?_eq_none (by rw [zvals_len]; exact h1)] at hu; cases hu
  rw [zvals_get bl j hj] at hu
  obtain ⟨b', o', e, g⟩ := segB_at h hj
  injection e with e
  injection e with e1 e2
  subst e1 e2
  rw [← hu, ← g]
  congr 1
  unfold Addr.add
  split
  · simp_all
  · rfl

/-- What a row of zeros has become behind copy. -/
theorem copied {w : World} {g n : Nat} {c : Array Value} {bl : List Nat} (hn : c.size = n) (hc : ∀ i, i < n → c[i]? = some (.int .u8 0))
    (h : w.heap[g]? = some (.cells (splice c.toList 0 (zvals (bl.take n))).toArray 5 (0, 0))) : w.rowIs g 5 n (fun j => .int .u8 ((Plain.pad bl n).getD j 0 : Nat)) := by
  refine ⟨_, h, ?_, fun i hi => ?_⟩
  · simp [splice, zvals_len, hn]; omega
  · show _ = some (Value.int .u8 ((Plain.pad bl n).getD i 0 : Nat))
    rw [Plain.pad_get bl n i hi]
    simp only [splice, List.take_zero, List.nil_append, List.getElem?_toArray]
    by_cases hb : i < bl.length
    · rw [List.getElem?_append_left (by rw [zvals_len, List.length_take]; omega), zvals_get _ _ (by rw [List.length_take]; omega)]
      simp [hi]
    · rw [List.getElem?_append_right (by rw [zvals_len, List.length_take]; omega), List.getElem?_drop, zvals_len, List.length_take]
      rw [show 0 + min n bl.length + (i - min n bl.length) = i by omega, Array.getElem?_toList, hc i hi]
      simp [List.getD_eq_getElem?_getD, List.getElem?_eq_none (show bl.length ≤ i by omega)]

/-- copy into a row of zeros that was just made. -/
theorem copy_run (w1 : World) (n : Nat) (a : Option Addr) (c : Nat) (bl : List Nat) (hS : SegB (w1.alloc (.cells (madeCells #[.int .u8 0] n) 5)) (.slice a bl.length c) bl) :
    ∃ W', (Builtin.copy_ #[23, 23] 3 #[.slice (some ⟨w1.heap.size, 0, none⟩) n n, .slice a bl.length c]).run Try.prog (w1.alloc (.cells (madeCells #[.int .u8 0] n) 5)) = .ok (goInt ((min bl.length n : Nat) : Int)) W' ∧
      W'.rowIs w1.heap.size 5 n (fun j => .int .u8 ((Plain.pad bl n).getD j 0 : Nat)) ∧ Below w1.heap.size w1 W' := by
  have hb : Below w1.heap.size w1 (w1.alloc (.cells (madeCells #[.int .u8 0] n) 5)) := (Below.refl _ _).alloc (Nat.le_refl _) _
  obtain ⟨cc, hcc, hcn, hcz⟩ := World.rowIs_made w1 (.int .u8 0) n 5
  by_cases h0 : min bl.length n = 0
  · refine ⟨_, ?_, ⟨cc, hcc, hcn, fun i hi => ?_⟩, hb⟩
    · rw [h0]
      exact run_copy_none _ 23 23 3 5 _ a n n bl.length c Try.underlying23 (by kernel_rfl) h0
    · show _ = some (Value.int .u8 ((Plain.pad bl n).getD i 0 : Nat))
      rw [hcz i hi, Plain.pad_get bl n i hi]
      have : bl = [] := List.length_eq_zero_iff.1 (by omega)
      rw [this]; rfl
  · obtain ⟨bb, oo, rfl, _⟩ := segB_at hS (k := 0) (by omega)
    have hlen : (zvals (bl.take n)).length = min bl.length n := by rw [zvals_len, List.length_take]; omega
    have hr := run_copy_row (P := Try.prog) (w1.alloc (.cells (madeCells #[.int .u8 0] n) 5)) 23 23 3 5 w1.heap.size 0 n n ⟨bb, oo, none⟩ bl.length c cc 5 (zvals (bl.take n)) Try.underlying23 (by kernel_rfl) hcc
      hlen (fun j v hj => by
        have hjl : j < (bl.take n).length := by
          rcases Nat.lt_or_ge j (bl.take n).length with h1 | h1
          · exact h1
          · rw [List.getElem?_eq_none (by rw [zvals_len]; exact h1)] at hj; cases hj
        rw [zvals_get _ _ hjl] at hj
        rw [List.length_take] at hjl
        refine segB_src hS j v ?_
        rw [← hj, zvals_get _ _ (by omega)]
        simp [show j < n by omega]) (by rw [hlen]; omega) (zvals_one _)
    rw [hlen] at hr
    refine ⟨_, hr, copied hcn hcz ?_, below_setRow hb (Nat.le_refl _) _⟩
    have := setRow_heap _ w1.heap.size cc (List.take 0 cc.toList ++ zvals (bl.take n) ++ List.drop (0 + min bl.length n) cc.toList).toArray 5 _ hcc
    rw [this]
    simp [splice, hlen]

/-- What comes of bytes: they are of the record, or their last bits are not 0. -/
theorem fix_yes (ws : List Int) (bl : List Nat) (hz : Plain.szE ws = 0) (hl : bl.length = Plain.szN ws) (hb : ∀ x ∈ bl, x < 256) (h : Plain.unpackE ws bl = 0) :
    Plain.packE (Plain.flds ws bl ws.length) = 0 ∧ Plain.packB (Plain.flds ws bl ws.length) = bl ∧ Plain.unpackI ws bl = (List.range ws.length).map (fun j => (Plain.valAt ws bl j : Int)) := by
  have ha := Plain.again ws bl hz hl hb
  have hx : Plain.num (Plain.bitOf bl) (Plain.bitsN ws) (8 * Plain.szN ws - Plain.bitsN ws) = 0 := by
    rcases Nat.eq_zero_or_pos (Plain.num (Plain.bitOf bl) (Plain.bitsN ws) (8 * Plain.szN ws - Plain.bitsN ws)) with e | e
    · exact e
    · have := (Plain.un_left ws bl hz hl (by omega)).1
      omega
  refine ⟨ha.1, ha.2.2 hx, ?_⟩
  rw [(Plain.un_ok ws bl hz hl hx).2]
  apply Plain.list_ext 0
  · simp [Plain.vals_len]
  · intro j hj
    rw [List.length_map, Plain.vals_len, List.length_map] at hj
    have e := Plain.vals_getD ws bl j hj
    have h1 : j < (Plain.vals (Plain.bitOf bl) 0 (ws.map Int.toNat)).length := by rw [Plain.vals_len, List.length_map]; exact hj
    rw [List.getD_eq_getElem?_getD, List.getElem?_eq_getElem h1] at e
    simp only [Option.getD_some] at e
    simp [hj, List.getD_eq_getElem?_getD, List.getElem?_eq_getElem h1, e]
theorem fix_no (ws : List Int) (bl : List Nat) (hz : Plain.szE ws = 0) (hl : bl.length = Plain.szN ws) (h : Plain.unpackE ws bl ≠ 0) : Plain.unpackE ws bl = 4 ∧ Plain.unpackI ws bl = [] ∧ 0 < Plain.szN ws := by
  have hx : Plain.num (Plain.bitOf bl) (Plain.bitsN ws) (8 * Plain.szN ws - Plain.bitsN ws) ≠ 0 := fun e => h (Plain.un_ok ws bl hz hl e).1
  have h4 := Plain.un_left ws bl hz hl hx
  refine ⟨h4.1, h4.2, ?_⟩
  rcases Nat.eq_zero_or_pos (Plain.szN ws) with e | e
  · exfalso
    apply hx
    rw [e, Nat.mul_zero, Nat.zero_sub]
    rfl
  · exact e
end Go.Proofs.Ytnnicibkmbidpac
