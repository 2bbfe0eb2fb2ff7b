/-
  The document's FrameHeard: its way to take bits. The document's FrameHeard: what lies in memory.
-/
import Derived.Test.YtkmnofmhjoehialQf
import Derived.Deep.QuietTactic
import Derived.BigQuiet
import Derived.Test.YtkmnofmhjoehialQk
import Derived.Laws.OwnMore
namespace Go.Proofs.Ytkmnofmhjoehial
open Go.RowKit Go.Shelf
namespace Plain
theorem num_small (g : Nat → Nat) (hg : ∀ p, g p < 2) (a w : Nat) (h : w ≤ 34) : num g a w < 17179869184 := by
  have h1 := num_lt g hg a w
  have h2 : 2 ^ w ≤ 2 ^ 34 := Nat.pow_le_pow_right (by decide) h
  omega
theorem bit_out (bl : List Nat) (p : Nat) (h : ¬ p / 8 < bl.length) : bitOf bl p = 0 := by
  unfold bitOf
  rw [List.getD_eq_getElem?_getD, List.getElem?_eq_none (by omega)]
  simp
end Plain
/-- The place from which bits are taken, in its box; bytes stay. -/
structure TkI (w wr : World) (A : Nat) (at_ : Nat) : Prop where
  row : wr.rowIs A 3 1 (fun _ => .int .i64 (at_ : Int))
  gr : w.grownBy wr (some A)
theorem TkI.drew {w wr : World} {A a : Nat} (h : TkI w wr A a) (q : Nat) : TkI w (wr.drewN q) A a := ⟨h.row.of_block (by rw [drewN_heap]), grown_trans h.gr (grown_drew wr q _)⟩
theorem TkI.next {w wr : World} {A a : Nat} (h : TkI w wr A a) (z : Int) (hz : z = ((a + 1 : Nat) : Int)) : TkI w (wr.setCell ⟨A, 0, none⟩ (.int .i64 z)) A (a + 1) := by
  subst hz
  refine ⟨(h.row.set 0 (.int .i64 ((a + 1 : Nat) : Int))).congr fun j hj => ?_, grown_trans h.gr (grown_setCell wr ⟨A, 0, none⟩ _ A rfl)⟩
  rw [if_pos (by omega)]
set_option maxHeartbeats 4000000 in
theorem take_c (A Bx n at_ : Nat) (p : Option Addr) (c : Nat) (bl : List Nat) (hbl : ∀ x ∈ bl, x < 256) (hn : n ≤ 34) (ha : at_ ≤ 100000) (hle : bl.length ≤ 9223372036854775807) (w : World) (hne : A ≠ Bx)
    (hs : SegB w (.slice p bl.length c) bl) (hl : Lies A (.slice p bl.length c)) (hb : w.cell? ⟨Bx, 0, none⟩ = some (.slice p bl.length c)) (hA : w.rowIs A 3 1 (fun _ => .int .i64 (at_ : Int))) :
    Calls Try.prog 41 #[.int .i64 n, .pointer (some ⟨A, 0, none⟩), .pointer (some ⟨Bx, 0, none⟩)] w fun e w' => e = .returned (.int .i64 (Plain.num (Plain.bitOf bl) at_ n : Nat)) ∧ TkI w w' A (at_ + n) := by
  have HBL := hid hbl
  have HB := hid (fun (X : World) (I : w.grownBy X (some A)) => show X.cell? ⟨Bx, 0, none⟩ = some (.slice p bl.length c) from
    (World.cell?_of_block (w := w) (a := ⟨Bx, 0, none⟩) (I.block Bx (World.block_lt_of_cell? (w := w) (h := hb)) (fun e => hne (Option.some.inj e).symm))).trans hb)
  have HS := hid (fun (X : World) (I : w.grownBy X (some A)) (h0 : 0 < bl.length) => show ∃ b off, p = some ⟨b, off, none⟩ ∧ ∀ j, j < bl.length → X.cell? ⟨b, off + j, none⟩ = some (.int .u8 (bl.getD j 0 : Nat)) by
    rcases hs with ⟨rfl, q, d, e⟩ | ⟨b, off, d, e, g⟩
    · simp at h0
    · injection e with e1 e2 e3
      subst e1
      have hbA : b < A := hl ⟨b, off, none⟩ _ _ rfl h0
      exact ⟨b, off, rfl, fun j hj => (World.cell?_of_block (w := w) (a := ⟨b, off + j, none⟩) (I.block b (World.block_lt_of_cell? (w := w) (h := g j hj)) (fun e => by have := Option.some.inj e; omega))).trans (g j hj)⟩)
  have T0 := hid (show TkI w w A (at_ + 0) from ⟨hA, grown_refl _ _⟩)
  clear hbl hs hl hb hA
  go_enter Try.func41, Try.ntmps41
  go_wp2
  go_loopg [0, 5] n (fun gg s0 s5 wr => ∃ k m : Nat, k + m = n ∧ m ≤ gg ∧ s0 = .int .i64 (m : Int) ∧ s5 = .int .i64 (Plain.num (Plain.bitOf bl) at_ k : Nat) ∧ Aside (TkI w wr A (at_ + k)))
  case atStart => exact ⟨0, n, by omega, by omega, rfl, rfl, (show Aside _ from T0.out)⟩
  case round =>
    obtain ⟨k, m, hkm, hg, rfl, rfl, I⟩ := hrel
    by_cases hlt : 0 < m
    · have hltz : (0 : Int) < (m : Int) := by omega
      have a0 := I.out.row.cell (i := 0) (by omega)
      have a1 := I.out.row.frozen 0
      have a2 : A < wr.heap.size := I.out.row.lt
      have b0 := HB.out wr I.out.gr
      obtain ⟨P, hP⟩ : ∃ P, P = at_ + k := ⟨_, rfl⟩
      have hP1 : P ≤ 200000 := by omega
      have HNU := hid (show Plain.num (Plain.bitOf bl) at_ (k + 1) = 2 * Plain.num (Plain.bitOf bl) at_ k + Plain.bitOf bl P by rw [hP]; rfl)
      have hnu := Plain.num_small (Plain.bitOf bl) (Plain.bitOf_lt bl) at_ k (by omega)
      rw [← hP] at a0
      have HP := hid hP
      obtain ⟨v, hv⟩ : ∃ v, v = Plain.num (Plain.bitOf bl) at_ k := ⟨_, rfl⟩
      rw [← hv] at hnu HNU ⊢
      clear hP hv
      by_cases hin : P / 8 < bl.length
      · have hinz : (P : Int) / 8 < (bl.length : Int) := by omega
        obtain ⟨b, off, rfl, hc⟩ := HS.out wr I.out.gr (by omega)
        have d0 := hc (P / 8) hin
        have hx := HBL.out (bl.getD (P / 8) 0) (by rw [List.getD_eq_getElem?_getD, List.getElem?_eq_getElem hin]; exact List.getElem_mem hin)
        have HBI := hid (show Plain.bitOf bl P = bl.getD (P / 8) 0 / 2 ^ (7 - P % 8) % 2 from rfl)
        generalize bl.getD (P / 8) 0 = X at d0 hx HBI
        clear hc
        obtain ⟨q, hq⟩ : ∃ q, q = P / 8 := ⟨_, rfl⟩
        obtain ⟨r, hrr⟩ : ∃ r, r = P % 8 := ⟨_, rfl⟩
        obtain ⟨t7, ht7⟩ : ∃ t7, t7 = 7 - P % 8 := ⟨_, rfl⟩
        obtain ⟨xs, hxs⟩ : ∃ xs, xs = X / 2 ^ (7 - P % 8) := ⟨_, rfl⟩
        have hxl : xs ≤ X := by rw [hxs]; exact Nat.div_le_self _ _
        have HBI2 := hid (show Plain.bitOf bl P = xs % 2 by rw [HBI.out, hxs])
        have htd : ((P : Int)).tdiv 8 = (q : Int) := by rw [Int.tdiv_eq_ediv_of_nonneg (by omega)]; omega
        have hwm : IntKind.i64.wrap (q : Int) = (q : Int) := Plain.wrap_nat q (by omega)
        have htm : ((P : Int)).tmod 8 = (r : Int) := by rw [Int.tmod_eq_emod_of_nonneg (by omega)]; omega
        have hwr : IntKind.i64.wrap (r : Int) = (r : Int) := Plain.wrap_nat r (by omega)
        have hsb : IntKind.i64.wrap (7 - (r : Int)) = (t7 : Int) := by rw [show (7 - (r : Int)) = (t7 : Int) by omega]; exact Plain.wrap_nat t7 (by omega)
        have hwx : IntKind.i64.wrap (X : Int) = (X : Int) := Plain.wrap_nat X (by omega)
        have hsh : (X : Int) / 2 ^ t7 = (xs : Int) := by rw [ht7, hxs]; simp
        have hwx2 : IntKind.i64.wrap (xs : Int) = (xs : Int) := Plain.wrap_nat xs (by omega)
        have hand : bits .and .i64 (xs : Int) 1 = ((xs % 2 : Nat) : Int) := Plain.and1 xs (by omega)
        have hadd : IntKind.i64.wrap ((v : Int) * 2 + ((xs % 2 : Nat) : Int)) = (v : Int) * 2 + ((xs % 2 : Nat) : Int) := by rw [IntKind.wrap_i64]; omega
        have hqz : (q : Int) < (bl.length : Int) := by omega
        rw [← hq] at d0
        go_upto_region 6 with fail
        have HNV := hid (show ∀ z : Int, z = (xs : Int) → wrap64 ((v : Int) * 2 + bits .and .i64 z 1) = ((Plain.num (Plain.bitOf bl) at_ (k + 1) : Nat) : Int) from fun z hz => by
          rw [hz, Plain.and1 xs (by omega), HNU.out, HBI2.out]
          unfold wrap64
          omega)
        have HMI := hid (show (X : Int) / 2 ^ min t7 64 = (xs : Int) by rw [show min t7 64 = t7 by omega]; exact hsh)
        clear hq hrr ht7 hxs
        go_quiet (fail)
        clear htd hwm htm hwr hsb hwx hsh hwx2 hand hadd hqz d0 b0
        have HN2 := hid (HNV.out _ HMI.out)
        obtain ⟨nv, hnv⟩ : ∃ nv : Int, nv = wrap64 ((v : Int) * 2 + bits .and .i64 ((X : Int) / 2 ^ min t7 64) 1) := ⟨_, rfl⟩
        rw [← hnv] at HN2 ⊢
        obtain ⟨W2, hW2⟩ : ∃ W2, W2 = wr.drewN nq := ⟨_, rfl⟩
        have I2 := hid (show TkI w W2 A (at_ + k) by rw [hW2]; exact I.out.drew nq)
        rw [← hW2]
        clear hnv HNV HMI hW2 a0 a1 a2 I
        have a0 := I2.out.row.cell (i := 0) (by omega)
        have a1 := I2.out.row.frozen 0
        have a2 : A < W2.heap.size := I2.out.row.lt
        rw [← HP.out] at a0
        have I3 := hid (I2.out.next ((P : Int) + 1) (by have := HP.out; omega))
        go_wp2
        go_roundg (m - 1)
        case measure => omega
        case rel => exact ⟨k + 1, m - 1, by omega, by omega, by first | rfl | go_num, by rw [HN2.out], (show Aside _ from I3.out)⟩
      · have hinz : ¬ (P : Int) / 8 < (bl.length : Int) := by omega
        have HB0 := hid (Plain.bit_out bl P hin)
        have I3 := hid (I.out.next ((P : Int) + 1) (by have := HP.out; omega))
        have HN2 := hid (show ((Plain.num (Plain.bitOf bl) at_ (k + 1) : Nat) : Int) = (v : Int) * 2 by rw [HNU.out, HB0.out]; omega)
        go_wp2
        go_roundg (m - 1)
        case measure => omega
        case rel => exact ⟨k + 1, m - 1, by omega, by omega, by first | rfl | go_num, by rw [HN2.out], (show Aside _ from I3.out)⟩
    · have hltz : ¬ (0 : Int) < (m : Int) := by omega
      have em : m = 0 := by omega
      subst em
      have ek : k = n := by omega
      subst ek
      go_wp2
      go_ret
      exact ⟨rfl, I.out⟩
end Go.Proofs.Ytkmnofmhjoehial
namespace Go.Proofs.Ytkmnofmhjoehial
open Go.RowKit Go.Shelf

/-- append of one entry, and where it lies then. -/
theorem app_entryAt {w wr : World} {B : Nat} {v : Value} {l : List Plain.En} (x : Plain.En) (o : OwnN wr B 69 v l) (hk : l.length ≤ 10000) (hB : B = w.heap.size) (b : Below w.heap.size w wr) :
    ∃ q d U, (Builtin.append_ #[49, 49] 49 #[v, .slice (some ⟨wr.heap.size, 0, none⟩) 1 1]).run Try.prog (wr.alloc (.cells (encE x).toArray 69)) = .ok (.slice q (l.length + 1) d) U ∧
      OwnN U B 69 (.slice q (l.length + 1) d) (l ++ [x]) ∧ Below w.heap.size w U ∧ (wr.alloc (.cells (encE x).toArray 69)).grownBy U v.ownBlock ∧
      ((Value.slice q (l.length + 1) d).ownBlock = v.ownBlock ∨ (Value.slice q (l.length + 1) d).ownBlock = some (wr.heap.size + 1)) := by
  have bA : Below wr.heap.size wr (wr.alloc (.cells (encE x).toArray 69)) := (Below.refl _ _).alloc (Nat.le_refl _) _
  have hBs : B ≤ wr.heap.size := by rw [hB]; exact b.size
  have o' : wr.ownsRow B 69 5 v l.length (evals l) := o
  obtain ⟨j0, hi, hzz⟩ := Option.map_eq_some_iff.1 Try.infoEntQ
  simp only [Prod.mk.injEq] at hzz
  obtain ⟨jz0, jz1, jz2⟩ := hzz
  obtain ⟨v', U, h1, h2, h3, _, h5⟩ := run_append_own_at (P := Try.prog) (wr.alloc (.cells (encE x).toArray 69)) B 49 49 69 j0 _ 5 40 Try.underlying49 hi jz0 jz1 jz2 rfl (by decide) v l.length _ (owns_growQ o' bA) ⟨wr.heap.size, 0, none⟩ 1 1 (encE x)
    rfl (fun j u hu => by rw [add_at, Nat.zero_add]; exact entry_one x wr j u hu) (by intro u hu; simp [encE] at hu; rcases hu with rfl | rfl | rfl | rfl | rfl <;> rfl) (by unfold maxLen; omega) (by omega) (Nat.le_trans hBs bA.size)
  rcases h2.2 with ⟨_, h0⟩ | ⟨g', cap, cur, rfl, hg, hq, _⟩
  · omega
  · refine ⟨_, _, U, h1, ?_, (b.trans (bA.mono b.size)).grown h3 (by have := bA.size; have := b.size; omega) (fun j hj => by have := ((owns_growQ o' bA).lt j hj).1; rw [hB] at this; exact this), h3, by simpa using h5⟩
    show U.ownsRow B 69 5 _ (l ++ [x]).length (evals (l ++ [x]))
    rw [List.length_append, evals_app]
    have e : evals [x] = encE x := by simp [evals]
    rw [e]
    exact h2
theorem own_ne {w : World} {b t n : Nat} {f : Nat → Value} (r : w.rowIs b t n f) {C e s k : Nat} {v : Value} {xs : List Value} (o : w.ownsRow C e s v k xs) (hne : t ≠ e) : v.ownBlock ≠ some b := by
  intro e'
  rcases o.2 with ⟨rfl, _⟩ | ⟨q, cap, cur, rfl, _, hq, _⟩
  · cases e'
  · obtain ⟨c, hb, _⟩ := r
    have : q = b := by simpa [Value.ownBlock] using e'
    subst this
    rw [hq] at hb
    injection hb with hb
    injection hb with _ h2
    exact hne h2.symm
theorem rows_ne {w : World} {b b' t t' n n' : Nat} {f f' : Nat → Value} (r : w.rowIs b t n f) (r' : w.rowIs b' t' n' f') (hne : t ≠ t') : b ≠ b' := by
  rintro rfl
  obtain ⟨c, hb, _⟩ := r
  obtain ⟨c', hb', _⟩ := r'
  rw [hb] at hb'
  injection hb' with hb'
  injection hb' with _ h2
  exact hne h2
theorem owns_kept {w U : World} {C e s k : Nat} {v : Value} {xs : List Value} (o : w.ownsRow C e s v k xs) {row : Option Nat} (g : w.grownBy U row) (h : ∀ b, v.ownBlock = some b → row ≠ some b) : U.ownsRow C e s v k xs := by
  refine ⟨o.1, ?_⟩
  rcases o.2 with h0 | ⟨q, cap, cur, rfl, h1, hq, h3⟩
  · exact .inl h0
  · exact .inr ⟨q, cap, cur, rfl, h1, (g.block q (Array.getElem?_eq_some_iff.1 hq).1 (fun e => h q rfl e.symm)).trans hq, h3⟩
/-- Where bits are taken from, and the lists so far. -/
structure HrI (W wr : World) (A O n : Nat) (at_ : Nat) (U : Nat → Value) (G : Nat → List Plain.En) : Prop where
  ra : wr.rowIs A 3 1 (fun _ => .int .i64 (at_ : Int))
  ro : wr.rowIs O 49 n U
  ow : ∀ j, j < n → OwnN wr W.heap.size 69 (U j) (G j)
  di : ∀ i j, i < n → j < n → i ≠ j → (U i).ownBlock = none ∨ (U i).ownBlock ≠ (U j).ownBlock
  be : Below W.heap.size W wr
  hA : W.heap.size ≤ A
  hO : W.heap.size ≤ O
namespace HrI
variable {W wr w' : World} {A O n at_ : Nat} {U : Nat → Value} {G : Nat → List Plain.En}
theorem congr (h : HrI W wr A O n at_ U G) {H : Nat → List Plain.En} (e : ∀ j, j < n → G j = H j) {b : Nat} (hb : at_ = b) : HrI W wr A O n b U H := by
  subst hb
  exact ⟨h.ra, h.ro, fun j hj => by rw [← e j hj]; exact h.ow j hj, h.di, h.be, h.hA, h.hO⟩
/-- Bits were taken. -/
theorem take (h : HrI W wr A O n at_ U G) {b : Nat} (t : TkI wr w' A b) : HrI W w' A O n b U G :=
  ⟨t.row, h.ro.of_block (t.gr.block O h.ro.lt (fun e => rows_ne h.ro h.ra (by decide) (Option.some.inj e))), fun j hj => owns_kept (h.ow j hj) t.gr (fun b e e' => by
      have := own_ne h.ra (h.ow j hj) (by decide)
      rw [e] at this
      exact this e'.symm), h.di, h.be.grown t.gr h.be.size (fun j hj => by have := Option.some.inj hj; rw [← this]; exact h.hA), h.hA, h.hO⟩
/-- An entry more. -/
theorem push (h : HrI W wr A O n at_ U G) {i : Nat} (hi : i < n) (x : Plain.En) (hl : (G i).length ≤ 10000) :
    ∃ q d V, (Builtin.append_ #[49, 49] 49 #[U i, .slice (some ⟨wr.heap.size, 0, none⟩) 1 1]).run Try.prog (wr.alloc (.cells (encE x).toArray 69)) = .ok (.slice q ((G i).length + 1) d) V ∧
      V.rowIs O 49 n U ∧ HrI W (V.setCell ⟨O, i, none⟩ (.slice q ((G i).length + 1) d)) A O n at_ (fun j => if j = i then .slice q ((G i).length + 1) d else U j) (fun j => if j = i then G i ++ [x] else G j) := by
  have bA : Below wr.heap.size wr (wr.alloc (.cells (encE x).toArray 69)) := (Below.refl _ _).alloc (Nat.le_refl _) _
  obtain ⟨q, d, V, r1, r2, r3, r4, r5⟩ := app_entryAt x (h.ow i hi) hl rfl h.be
  have raA := h.ra.of_block (bA.block _ h.ra.lt)
  have roA := h.ro.of_block (bA.block _ h.ro.lt)
  have owA : ∀ j, j < n → (wr.alloc (.cells (encE x).toArray 69)).ownsRow W.heap.size 69 5 (U j) (G j).length (evals (G j)) := fun j hj => owns_growQ (h.ow j hj) bA
  have raV : V.rowIs A 3 1 (fun _ => .int .i64 (at_ : Int)) := row_far raA (owA i hi) (by decide) r4
  have roV : V.rowIs O 49 n U := row_far roA (owA i hi) (by decide) r4
  have hOA : A ≠ O := rows_ne raV roV (by decide)
  have r2' : V.ownsRow W.heap.size 69 5 (.slice q ((G i).length + 1) d) (G i ++ [x]).length (evals (G i ++ [x])) := r2
  have hnew : ∀ j, j < n → j ≠ i → (U j).ownBlock = none ∨ (U j).ownBlock ≠ (Value.slice q ((G i).length + 1) d).ownBlock := fun j hj hji => by
    rcases r5 with e | e
    · rw [e]; exact h.di j i hj hi hji
    · rw [e]
      by_cases h0 : (U j).ownBlock = none
      · exact .inl h0
      · right
        intro e2
        have := ((h.ow j hj).lt _ e2).2
        omega
  refine ⟨q, d, V, r1, roV, raV.of_block (RowKit.Below.heap_setCell V ⟨O, i, none⟩ _ A hOA), (roV.set i _).congr fun j _ => rfl, fun j hj => ?_, fun a b ha hb hab => ?_, r3.setCell (p := ⟨O, i, none⟩) h.hO _, h.hA, h.hO⟩
  · by_cases e : j = i
    · simp only [if_pos e]
      exact ownsRow_setCell_other r2' (own_ne roV r2' (by decide)) _
    · simp only [if_neg e]
      have oj : V.ownsRow W.heap.size 69 5 (U j) (G j).length (evals (G j)) := owns_kept (owA j hj) r4 (fun b eb eb' => by
        rcases h.di j i hj hi e with h1 | h1
        · rw [h1] at eb; cases eb
        · exact h1 (by rw [eb, eb']))
      exact ownsRow_setCell_other oj (own_ne roV oj (by decide)) _
  · by_cases ea : a = i
    · have eb : b ≠ i := fun e => hab (by rw [ea, e])
      simp only [if_pos ea, if_neg eb]
      rcases hnew b hb eb with h1 | h1
      · by_cases h0 : (Value.slice q ((G i).length + 1) d).ownBlock = none
        · exact .inl h0
        · right; rw [h1]; exact h0
      · right; exact fun e => h1 e.symm
    · by_cases eb : b = i
      · simp only [if_neg ea, if_pos eb]
        exact hnew a ha ea
      · simp only [if_neg ea, if_neg eb]
        exact h.di a b ha hb hab
theorem segs (h : HrI W wr A O n at_ U G) (hn : n ≤ 1000) (hl : ∀ j, j < n → (G j).length ≤ 1000) (c : Nat) : SegLs wr (.slice (some ⟨O, 0, none⟩) n c) ((List.range n).map G) := by
  refine ⟨by simp; omega, some ⟨O, 0, none⟩, c, by simp, fun _ => ⟨O, 0, rfl, h.ro.lt, fun j hj => ?_⟩⟩
  rw [List.length_map, List.length_range] at hj
  refine ⟨U j, by rw [Nat.zero_add]; exact h.ro.cell hj, ?_⟩
  rw [List.getD_eq_getElem?_getD, List.getElem?_map, List.getElem?_range hj]
  have := (h.ow j hj).seg
  exact ⟨this.1, this.2, by have := hl j hj; show (G j).length ≤ _; omega⟩
/-- The slice at i, as it stands. -/
theorem form (h : HrI W wr A O n at_ U G) {i : Nat} (hi : i < n) : ∃ p c, U i = .slice p (G i).length c := by
  obtain ⟨p, c, e, _⟩ := (h.ow i hi).seg.1.form
  exact ⟨p, c, e⟩
end HrI
end Go.Proofs.Ytkmnofmhjoehial
