/-
  The document's List.
-/
import Derived.Test.YtiolkeghgodggakRs1
import Derived.Test.YtiolkeghgodggakGd
namespace Go.Proofs.Ytiolkeghgodggak
open Go.RowKit Go.Shelf Go.Sort

def encN : Enc Plain.En := ⟨5, encE, encE_len, encE_one, by decide⟩
/-- Entries in a row of the call's own. -/
structure EI (w W : World) (v : Value) (l : List Plain.En) : Prop where
  ow : W.ownsRow w.heap.size 46 5 v l.length (encN.vals l)
  be : Below w.heap.size w W
namespace EI
variable {w W W' : World} {v : Value} {l : List Plain.En}
theorem nil (w : World) : EI w w (.slice none 0 0) [] := ⟨World.ownsRow_nil _ _ _ _, Below.refl _ _⟩
theorem grow (h : EI w W v l) (g : Below W.heap.size W W') : EI w W' v l := ⟨owns_grow h.ow g, h.be.trans (g.mono h.be.size)⟩
theorem snoc (h : EI w W v l) (hb : l.length ≤ 1000) (y : Plain.En) :
    ∃ p c U, (Builtin.append_ #[39, 39] 39 #[v, .slice (some ⟨W.heap.size, 0, none⟩) 1 1]).run Try.prog (W.alloc (boxE y)) = .ok (.slice p (l.length + 1) c) U ∧ EI w U (.slice p (l.length + 1) c) (l ++ [y]) := by
  obtain ⟨j0, ji, jz0, jz1, jz2⟩ := info_parts Try.infoEntry
  obtain ⟨p, c, U, h1, h2, h3⟩ := Enc.snoc1 (E := encN) Try.underlying39 ji jz0 jz1 jz2 rfl h.ow rfl hb (by omega) h.be.size y
  have bel : Below W.heap.size W (W.alloc (boxE y)) := (Below.refl _ _).alloc (Nat.le_refl _) _
  have hlen : (l ++ [y]).length = l.length + 1 := by simp
  exact ⟨p, c, U, h1, ⟨by rw [hlen]; exact h2, (h.be.trans (bel.mono h.be.size)).grown h3 (Nat.le_trans h.be.size bel.size) (fun j hj => (h.ow.lt j hj).1)⟩⟩
theorem seg (h : EI w W v l) : SegN W v l ∧ Lies W.heap.size v := OwnN.seg (B := w.heap.size) (T := 46) h.ow
end EI
theorem Plain.listA_le (f : Nat → Option Plain.En) (n : Nat) : (Plain.listA f n).length ≤ n := by
  unfold Plain.listA
  exact Nat.le_trans (List.length_filterMap_le _ _) (by simp)

set_option maxHeartbeats 4000000 in
set_option maxRecDepth 100000 in
theorem list_c (B S HO IO : Nat) (hb ib : Nat → Nat) (w0 : World) (lp : Option Addr) (lc n m hc ic : Nat) (f : Plain.Shv) (i j : Nat) (hi : i < n) (hj : j < m) (w : World) (hB : B ≤ w.heap.size) (I : ShI B S HO IO hb ib w0 w lp lc n m hc ic f) :
    Calls Try.prog 28 #[.pointer (some ⟨S, 0, none⟩), .int .i64 (i : Int), .int .i64 (j : Int)] w fun e w' => ∃ q c, e = .returned (.slice q (f.st i j).length c) ∧ EI w w' (.slice q (f.st i j).length c) (f.st i j) := by
  have hiz : (i : Int) < (n : Int) := by omega
  have hjz : (j : Int) < (m : Int) := by omega
  have HI := hid I
  clear I
  go_enter Try.func28, Try.ntmps28
  go_wp2
  go_loopg [7, 8, 9] 8 (fun gg s7 _ s9 wx => ∃ (k N : Nat) (q : Option Addr) (c : Nat), k ≤ 8 ∧ 8 - k ≤ gg ∧ s9 = .int .i64 k ∧ s7 = .slice q N c ∧ Aside (N = (Plain.listA (f i j) k).length) ∧ Aside (EI w wx (.slice q N c) (Plain.listA (f i j) k)))
  case atStart => exact ⟨0, 0, none, 0, Nat.zero_le _, by omega, rfl, rfl, (show Aside _ from rfl), (show Aside _ from EI.nil w)⟩
  case round =>
    obtain ⟨k, N, q, c, hk, hg, rfl, rfl, HN, HE⟩ := hrel
    by_cases hlt : k < 8
    · have hltz : (k : Int) < 8 := by omega
      have I1 := HI.out.grow hB HE.out.be
      have x1 := I1.cell1
      have x2 := I1.cell2
      have xh := I1.cellH hi
      have xi := I1.cellI hi
      have c0 := (I1.isAt hi hj hlt).1
      have HSU := hid (Plain.listA_succ (f i j) k)
      cases hf : f i j k with
      | none =>
        rw [hf] at c0 HSU
        have c0' : wr.cell? ⟨ib i, j * 8 + k, none⟩ = some (.bool false) := c0
        have HL2 := hid (show Plain.listA (f i j) (k + 1) = Plain.listA (f i j) k by rw [HSU.out]; simp)
        have HE2 := hid HE.out
        have HN2 := hid HN.out
        clear c0 hf I1 HE HN HSU
        go_wp2
        go_roundg (8 - (k + 1))
        case measure => omega
        case rel => exact ⟨k + 1, N, q, c, by omega, by omega, by go_num, rfl, (show Aside _ from by rw [HL2.out]; exact HN2.out), (show Aside _ from by rw [HL2.out]; exact HE2.out)⟩
      | some e =>
        rw [hf] at c0 HSU
        have c0' : wr.cell? ⟨ib i, j * 8 + k, none⟩ = some (.bool true) := c0
        obtain ⟨e0, e1, e2, e3, e4⟩ := I1.enAt hi hj hlt hf
        have HL2 := hid (show Plain.listA (f i j) (k + 1) = Plain.listA (f i j) k ++ [e] by rw [HSU.out]; rfl)
        have hle := Plain.listA_le (f i j) k
        obtain ⟨pn, cn, U, hrun, hU⟩ := HE.out.snoc (by omega) e
        rw [← HN.out] at hrun hU hle
        have RUN := hid hrun
        have HU := hid hU
        have HN2 := hid (show N + 1 = (Plain.listA (f i j) (k + 1)).length by rw [HL2.out, List.length_append, ← HN.out]; rfl)
        obtain ⟨ek, ev, et, eo, eg⟩ := e
        dsimp only at e0 e1 e2 e3 e4
        clear c0 hf I1 HE HN HSU hrun hU
        go_wp2_with (first | (at_builtin; refine wpList_app _ _ 39 RUN.out (by rfl) (by rfl) (by rfl) (by rfl) (by rfl) ?_) | fail)
        go_wp2
        go_roundg (8 - (k + 1))
        case measure => omega
        case rel => exact ⟨k + 1, N + 1, pn, cn, by omega, by omega, by go_num, rfl, (show Aside _ from HN2.out), (show Aside _ from by rw [HL2.out]; exact HU.out)⟩
    · have hltz : ¬ (k : Int) < 8 := by omega
      have hk8 : k = 8 := by omega
      have FX := hid (show ∃ q' c', Ending.returned (Value.slice q N c) = .returned (.slice q' (f.st i j).length c') ∧ EI w wr (.slice q' (f.st i j).length c') (f.st i j) from by
        have h1 := HN.out
        have h2 := HE.out
        rw [hk8] at h1 h2
        refine ⟨q, c, by rw [h1]; rfl, ?_⟩
        rw [h1] at h2
        exact h2)
      clear HN HE
      go_wp2
      go_ret
      exact FX.out
end Go.Proofs.Ytiolkeghgodggak
