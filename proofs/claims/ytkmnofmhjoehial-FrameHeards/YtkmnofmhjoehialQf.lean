/-
  The document's FrameRumour: what lies in memory.
-/
import Derived.Test.YtkmnofmhjoehialQe
import Derived.Test.YtkmnofmhjoehialRPack
import Derived.Test.YtkmnofmhjoehialRy
import Derived.Laws.OwnMore
namespace Go.Proofs.Ytkmnofmhjoehial
open Go.RowKit Go.Shelf
namespace Plain
theorem and1 (q : Nat) (h : q < 9223372036854775808) : bits .and .i64 (q : Int) 1 = ((q % 2 : Nat) : Int) := by
  have := and_nat q 1 h (by omega)
  rw [Nat.and_one_is_mod] at this
  exact this
/-- The bit of a number that is appended. -/
theorem bit_at (y d : Nat) (h : y < 9223372036854775808) : bits .and .i64 ((y : Int) / 2 ^ d) 1 = ((y / 2 ^ d % 2 : Nat) : Int) := by
  have hd : y / 2 ^ d ≤ y := Nat.div_le_self _ _
  have e : ((y : Int) / 2 ^ d) = ((y / 2 ^ d : Nat) : Int) := by simp
  rw [e, and1 _ (by omega)]
theorem rd_nat (s k : Nat) (hk : k < 8) : rdB (s : Int) (k : Int) = (s / 2 ^ k % 2 == 1) := by
  unfold rdB
  rw [Int.toNat_natCast, Int.toNat_natCast, decide_eq_true (show (0 : Int) ≤ (k : Int) by omega), decide_eq_true (show (k : Int) < 8 by omega)]
  rfl
/-- The fields of a key are small. -/
theorem sf_ok {l : List En} (hm : ∀ e ∈ l, mayB e = true) (hf : ∀ e ∈ l, fitE e = true) (k : Int) : ∀ f ∈ sfL l k, ∃ x y : Nat, f = ((x : Int), (y : Int)) ∧ 1 ≤ x ∧ x ≤ 34 ∧ y ≤ 1048576 := by
  intro f hff
  unfold sfL at hff
  cases hl : look k l with
  | none =>
    rw [hl] at hff
    simp at hff
    subst hff
    exact ⟨34, 0, rfl, by omega, by omega, by omega⟩
  | some e =>
    rw [hl] at hff
    have h1 := may_e (hm e (look_key hl).2)
    have h2 := fit_e (hf e (look_key hl).2)
    simp only [sfE, List.mem_cons, List.not_mem_nil, or_false] at hff
    rcases hff with rfl | rfl | rfl | rfl | rfl
    · exact ⟨1, 1, rfl, by omega, by omega, by omega⟩
    · refine ⟨1, if e.gone = true then 1 else 0, ?_, by omega, by omega, by split <;> omega⟩
      split <;> rfl
    · exact ⟨8, e.value.toNat, by rw [Int.toNat_of_nonneg h1.2.1.1]; rfl, by omega, by omega, by omega⟩
    · exact ⟨21, e.time.toNat, by rw [Int.toNat_of_nonneg h1.2.2.1.1]; rfl, by omega, by omega, by omega⟩
    · exact ⟨3, e.who.toNat, by rw [Int.toNat_of_nonneg h1.2.2.2.1.1]; rfl, by omega, by omega, by omega⟩
theorem sf_len (l : List En) (k : Int) : (sfL l k).length ≤ 5 := by
  unfold sfL
  split <;> simp [sfE]
theorem mem_com {ls : List Int} {a b : Int} {k i : Nat} (hi : i < k) (h : both (ls.getD i 0) a b = true) : i ∈ comL ls a b k := List.mem_filter.2 ⟨List.mem_range.2 hi, h⟩
theorem room_bad {st : List (List En)} {js : List Nat} {i : Nat} (hi : i ∈ js) (h : (st.getD i []).all fitE = false) : roomB st js = false := by
  unfold roomB
  rw [List.all_eq_false]
  exact ⟨i, hi, by rw [h]; decide⟩
theorem sf_take (F : List (Int × Int)) (k : Nat) (hk : k < F.length) (x y : Nat) (h : F.getD k (0, 0) = ((x : Int), (y : Int))) : rbits ((F.take (k + 1)).map nat2) = rbits ((F.take k).map nat2) ++ fbits x y := by
  rw [pk_take F k hk, h, Int.toNat_natCast, Int.toNat_natCast]
/-- How many bits lists have at most. -/
theorem sf_blen {l : List En} (hm : ∀ e ∈ l, mayB e = true) (hf : ∀ e ∈ l, fitE e = true) (k : Nat) : (rbits ((sfL l k).map nat2)).length = 34 := by
  rw [sfL_bits hm hf, fbits_len]
theorem kbits_len {l : List En} (hm : ∀ e ∈ l, mayB e = true) (hf : ∀ e ∈ l, fitE e = true) (k : Nat) : (kbits l k).length = 34 * k := by
  induction k with
  | zero => rfl
  | succ k ih => rw [kbits_succ, List.length_append, ih, sf_blen hm hf]; omega
theorem rb_take_le (F : List (Int × Int)) (k : Nat) : (rbits ((F.take k).map nat2)).length ≤ (rbits (F.map nat2)).length := by
  rw [pk_len, pk_len, List.map_take]
  exact bitsN_mono _ _
/-- The bytes so far. -/
theorem yv_zero (bs : List Nat) (i : Nat) (h : i % 8 = 0) (hl : bs.length = i) : byteOf (at0 bs) (i / 8) = 0 := by
  unfold byteOf
  have o : ∀ t, at0 bs (8 * (i / 8) + t) = 0 := fun t => at0_out bs _ (by omega)
  have o0 := o 0
  rw [Nat.add_zero] at o0
  rw [o0, o 1, o 2, o 3, o 4, o 5, o 6, o 7]
theorem at0_lt2 (bs : List Nat) (h : ∀ x ∈ bs, x < 2) : ∀ p, at0 bs p < 2 := at0_lt bs h
theorem kbits_lt (l : List En) (k : Nat) : ∀ x ∈ kbits l k, x < 2 := by
  intro x hx
  obtain ⟨j, _, hx⟩ := List.mem_flatMap.1 hx
  exact rbits_lt _ x hx
theorem lbits_lt (st : List (List En)) (js : List Nat) : ∀ x ∈ lbits st js, x < 2 := by
  intro x hx
  obtain ⟨j, _, hx⟩ := List.mem_flatMap.1 hx
  exact kbits_lt _ _ x hx
/-- One bit more, laid into its byte. -/
theorem byte_or (bs : List Nat) (hb : ∀ x ∈ bs, x < 2) (b : Nat) (h2 : b < 2) :
    bits .or .u8 ((byteOf (at0 bs) (bs.length / 8) : Nat) : Int) ((b * 2 ^ (7 - bs.length % 8) : Nat) : Int) = ((byteOf (at0 (bs ++ [b])) (bs.length / 8) : Nat) : Int) := by
  have hlt := byteOf_lt (at0 bs) (at0_lt2 bs hb) (bs.length / 8)
  have : b = 0 ∨ b = 1 := by omega
  rcases this with rfl | rfl
  · rw [at0_snoc0, Nat.zero_mul]
    have h0 : ∀ x : Fin 256, bits .or .u8 (x.val : Int) ((0 : Nat) : Int) = (x.val : Int) := by decide +kernel
    exact h0 ⟨_, hlt⟩
  · rw [byteOf_snoc1, if_pos rfl, Nat.one_mul]
    exact or_byte _ _ hlt (byteOf_low bs)
theorem w64 {b t bt : Nat} (h : bt = b * 2 ^ t) (h1 : bt ≤ 128) (h2 : t ≤ 7) : wrap64 ((b : Int) * 2 ^ min t 64) % 256 = (bt : Int) := by
  have e : ((b : Int) * 2 ^ min t 64) = (bt : Int) := by rw [h, show min t 64 = t by omega]; simp
  rw [e]
  generalize (bt : Nat) = x at h1
  unfold wrap64
  omega
theorem byte_far (bs : List Nat) (b : Nat) (h2 : b < 2) (j : Nat) (hj : j ≠ bs.length / 8) : byteOf (at0 (bs ++ [b])) j = byteOf (at0 bs) j := by
  have : b = 0 ∨ b = 1 := by omega
  rcases this with rfl | rfl
  · rw [at0_snoc0]
  · rw [byteOf_snoc1, if_neg hj]
end Plain
theorem yvals_set (bs : List Nat) (b : Nat) (h2 : b < 2) (n : Nat) : (yvals bs n).set (bs.length / 8) (.int .u8 ((Plain.byteOf (Plain.at0 (bs ++ [b])) (bs.length / 8) : Nat) : Int)) = yvals (bs ++ [b]) n := by
  unfold yvals
  apply List.ext_getElem
  · simp
  · intro j h1 h3
    rw [List.getElem_set]
    simp only [List.length_set, List.length_map, List.length_range] at h1
    by_cases e : bs.length / 8 = j
    · rw [if_pos e]
      simp only [List.getElem_map, List.getElem_range]
      rw [e]
    · rw [if_neg e]
      simp only [List.getElem_map, List.getElem_range]
      rw [Plain.byte_far bs b h2 j (fun h => e h.symm)]
/-- A block of another type stays where a row grows. -/
theorem row_far {w U : World} {b t n : Nat} {f : Nat → Value} (r : w.rowIs b t n f) {C e s k : Nat} {v : Value} {xs : List Value} (o : w.ownsRow C e s v k xs) (hne : t ≠ e) (g : w.grownBy U v.ownBlock) : U.rowIs b t n f := by
  refine r.of_block (g.block b r.lt fun e' => ?_)
  rcases o.2 with ⟨rfl, _⟩ | ⟨q, cap, cur, rfl, _, hq, _⟩
  · cases e'
  · obtain ⟨c, hb, _⟩ := r
    have : b = q := by simpa [Value.ownBlock] using e'
    subst this
    rw [hq] at hb
    injection hb with hb
    injection hb with _ h2
    exact hne h2.symm
/-- The bits so far, in a row of their own. -/
structure FrI (W wr : World) (B : Nat) (v : Value) (bs : List Nat) : Prop where
  ow : wr.ownsRow B 3 1 v bs.length (bvals bs)
  be : Below W.heap.size W wr
theorem FrI.grow {W wr w' : World} {B : Nat} {v : Value} {bs : List Nat} (h : FrI W wr B v bs) (b : Below wr.heap.size wr w') : FrI W w' B v bs := ⟨owns_growQ h.ow b, h.be.trans (b.mono h.be.size)⟩
theorem bvals_map (bs : List Nat) : bvals bs = (Plain.natsI bs).map (Value.int .i64) := by simp [bvals, Plain.natsI]
/-- One bit more; fields stay where they are. -/
theorem FrI.push {W wr : World} {B : Nat} {v : Value} {bs : List Nat} (h : FrI W wr B v bs) (hB : B = W.heap.size) (hl : bs.length ≤ 9000) (z : Int) (b : Nat) (hz : z = (b : Int)) :
    ∃ q d U, (Builtin.append_ #[22, 22] 22 #[v, .slice (some ⟨wr.heap.size, 0, none⟩) 1 1]).run Try.prog (wr.alloc (.cells #[.int .i64 z] 3)) = .ok (.slice q (bs.length + 1) d) U ∧
      FrI W U B (.slice q (bs.length + 1) d) (bs ++ [b]) ∧ ∀ fb n f, wr.rowIs fb 56 n f → U.rowIs fb 56 n f := by
  have ho := h.ow
  rw [bvals_map] at ho
  obtain ⟨q, d, U, r1, r2, r3, r4⟩ := app_int z ho (by omega) hB h.be
  have bA : Below wr.heap.size wr (wr.alloc (.cells #[.int .i64 z] 3)) := (Below.refl _ _).alloc (Nat.le_refl _) _
  refine ⟨q, d, U, r1, ⟨?_, r3⟩, fun fb n f r => row_far (r.of_block (bA.block _ r.lt)) (owns_growQ h.ow bA) (by decide) r4⟩
  rw [bvals_map, List.length_append]
  unfold Plain.natsI
  rw [List.map_append]
  subst hz
  exact r2
/-- The bits, opened. -/
theorem FrI.open {W wr : World} {B : Nat} {v : Value} {bs : List Nat} (h : FrI W wr B v bs) : ∃ p c, v = .slice p bs.length c ∧ (0 < bs.length → ∃ g, p = some ⟨g, 0, none⟩ ∧ g < wr.heap.size ∧ ∀ j, j < bs.length → wr.cell? ⟨g, j, none⟩ = some (.int .i64 ((bs.getD j 0 : Nat) : Int))) := by
  have o := h.ow
  rcases o.2 with ⟨rfl, e⟩ | ⟨g, cap, cur, rfl, _, hq, _⟩
  · exact ⟨none, 0, by rw [e], fun h0 => by omega⟩
  · exact ⟨_, cap, rfl, fun _ => ⟨g, rfl, (Array.getElem?_eq_some_iff.1 hq).1, fun j hj => own_bit o j hj⟩⟩
theorem byte_one (w : World) : ∀ j u, [Value.int .u8 0][j]? = some u → (w.alloc (.cells #[.int .u8 0] 5)).cell? ⟨w.heap.size, j, none⟩ = some u := by
  intro j u hu
  match j, hu with
  | 0, hu => simp at hu; subst hu; rw [World.cell?_alloc_at _ _ _ _ rfl]; rfl
/-- The bytes so far, in a row of their own. -/
structure ByI (W wr : World) (v : Value) (bs : List Nat) (n : Nat) : Prop where
  ow : wr.ownsRow W.heap.size 5 1 v n (yvals bs n)
  be : Below W.heap.size W wr
theorem ByI.push {W wr : World} {v : Value} {bs : List Nat} {n i : Nat} (h : ByI W wr v bs n) (hn : n = i / 8) (hl : bs.length = i) (hi : i % 8 = 0) (hm : i ≤ 9000) :
    ∃ g d U, (Builtin.append_ #[26, 26] 26 #[v, .slice (some ⟨wr.heap.size, 0, none⟩) 1 1]).run Try.prog (wr.alloc (.cells #[.int .u8 0] 5)) = .ok (.slice (some ⟨g, 0, none⟩) (i / 8 + 1) d) U ∧ ByI W U (.slice (some ⟨g, 0, none⟩) (i / 8 + 1) d) bs (i / 8 + 1) := by
  subst hn
  have bA : Below wr.heap.size wr (wr.alloc (.cells #[.int .u8 0] 5)) := (Below.refl _ _).alloc (Nat.le_refl _) _
  obtain ⟨q, d, U, r1, r2, r3⟩ := app_vals Try.underlying26 Try.infoByte rfl (by decide) (by decide) (owns_growQ h.ow bA) (show i / 8 + 1 ≤ 100000 by omega) (Nat.le_trans h.be.size bA.size) (Nat.le_refl 1) (k := 1) (ys := [.int .u8 0]) rfl (by intro u hu; simp at hu; subst hu; rfl) (byte_one wr) 1
  obtain ⟨g, cp, e, _⟩ := r2.form (by omega)
  injection e with e1 _ _
  subst e1
  refine ⟨g, d, U, r1, ?_, (h.be.trans (bA.mono h.be.size)).grown r3 (by have := bA.size; have := h.be.size; omega) (fun j hj => ((owns_growQ h.ow bA).lt j hj).1)⟩
  rw [yvals_succ, Plain.yv_zero bs i hi hl]
  exact r2
/-- A bit is laid into its byte. -/
theorem ByI.put {W wr : World} {g n d : Nat} {bs : List Nat} (h : ByI W wr (.slice (some ⟨g, 0, none⟩) n d) bs n) (b : Nat) (h2 : b < 2) (z : Int) (hz : z = ((Plain.byteOf (Plain.at0 (bs ++ [b])) (bs.length / 8) : Nat) : Int)) :
    ByI W (wr.setCell ⟨g, bs.length / 8, none⟩ (.int .u8 z)) (.slice (some ⟨g, 0, none⟩) n d) (bs ++ [b]) n := by
  subst hz
  have := h.ow.stored (bs.length / 8) (.int .u8 ((Plain.byteOf (Plain.at0 (bs ++ [b])) (bs.length / 8) : Nat) : Int))
  rw [yvals_set bs b h2] at this
  exact ⟨this.1, h.be.setCell (p := ⟨g, bs.length / 8, none⟩) (h.ow.lt g rfl).1 _⟩
theorem ByI.cell {W wr : World} {g n d : Nat} {bs : List Nat} (h : ByI W wr (.slice (some ⟨g, 0, none⟩) n d) bs n) {j : Nat} (hj : j < n) : wr.cell? ⟨g, j, none⟩ = some (.int .u8 ((Plain.byteOf (Plain.at0 bs) j : Nat) : Int)) := by
  rw [h.ow.cellAt j (by omega)]
  simp [yvals, hj]
theorem ByI.drew {W wr : World} {v : Value} {bs : List Nat} {n : Nat} (h : ByI W wr v bs n) (q : Nat) : ByI W (wr.drewN q) v bs n :=
  ⟨owns_heap h.ow (drewN_heap _ _), below_drewN h.be q⟩
set_option maxHeartbeats 400000 in
theorem rreadsQ (s k : Nat) (hs : s < 256) (hk : k < 8) (w : World) :
    Calls Try.prog 38 #[.int .i64 s, .int .i64 k] w fun e w' => e = .returned (.bool (s / 2 ^ k % 2 == 1)) ∧ w' = w := by
  have e1 : (bits .and .i64 ((s : Int) / 2 ^ k) 1 == 1) = (s / 2 ^ k % 2 == 1) := LabP.reads_eq s k hs
  go_enter Try.func38, Try.ntmps38
  go_wp2
  go_ret
  exact ⟨rfl, rfl⟩
end Go.Proofs.Ytkmnofmhjoehial
