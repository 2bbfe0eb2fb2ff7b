/-
  The circle: a store of each branch.
-/
import Derived.Test.YtiolkeghgodggakGz
import Derived.Test.YtiolkeghgodggakGq
namespace Go.Proofs.Ytiolkeghgodggak
open Go.RowKit Go.Shelf Go.Sort

/-- Entries stay, where nothing turns but a row of slices. -/
theorem seg_kp {w w' : World} {v : Value} {l : List Plain.En} (h : SegN w v l) (hl : Lies w.heap.size v) {H m : Nat} {s : Nat → List Plain.En} {f : Nat → Value} (r : RowL w H m s f) (k : Kp (fun _ => False) H w w') : SegN w' v l := by
  rcases h with ⟨rfl, p1, c1, rfl⟩ | ⟨b1, o1, c1, rfl, hc1, g1⟩
  · exact .inl ⟨rfl, p1, c1, rfl⟩
  · refine .inr ⟨b1, o1, c1, rfl, hc1, fun j hj => ?_⟩
    have hb : b1 < w.heap.size := hl ⟨b1, o1, none⟩ _ _ rfl (by omega)
    have hne : b1 ≠ H := by
      rintro rfl
      have c0 := (g1 j hj).c0
      obtain ⟨c, hb, hs, hc⟩ := r.row
      simp only [World.cell?, hb] at c0
      by_cases hlt : o1 + j * 5 < m
      · obtain ⟨p, n, c', e⟩ := r.slices _ hlt
        rw [hc _ hlt, e] at c0
        simp at c0
      · rw [Array.getElem?_eq_none (by omega)] at c0
        simp at c0
    have e := k.block b1 hb hne (fun x => x)
    obtain ⟨d0, d1, d2, d3, d4⟩ := g1 j hj
    exact ⟨by rw [← d0]; simp only [World.cell?, e], by rw [← d1]; simp only [World.cell?, e], by rw [← d2]; simp only [World.cell?, e], by rw [← d3]; simp only [World.cell?, e], by rw [← d4]; simp only [World.cell?, e]⟩
/-- Numbers stay, where nothing turns but a row of slices. -/
theorem nums_kp {w w' : World} {p : Option Addr} {l : List Int} (h : Nums w p l) {H m : Nat} {s : Nat → List Plain.En} {f : Nat → Value} (r : RowL w H m s f) (k : Kp (fun _ => False) H w w') : Nums w' p l := fun h0 => by
  obtain ⟨b, off, e, hb, hc⟩ := h h0
  refine ⟨b, off, e, Nat.lt_of_lt_of_le hb k.size, fun j hj => ?_⟩
  have hne : b ≠ H := by
    rintro rfl
    have c0 := hc j hj
    obtain ⟨c, hb, hs, hcc⟩ := r.row
    simp only [World.cell?, hb] at c0
    by_cases hlt : off + j < m
    · obtain ⟨p, n, c', e⟩ := r.slices _ hlt
      rw [hcc _ hlt, e] at c0
      simp at c0
    · rw [Array.getElem?_eq_none (by omega)] at c0
      simp at c0
  have e := k.block b hb hne (fun x => x)
  rw [← hc j hj]
  simp only [World.cell?, e]
/-- Another row of slices stays. -/
theorem RowL.kp {w w' : World} {g m : Nat} {s : Nat → List Plain.En} {f : Nat → Value} (h : RowL w g m s f) {H m' : Nat} {s' : Nat → List Plain.En} {f' : Nat → Value} (r : RowL w H m' s' f') (hne : g ≠ H) (k : Kp (fun _ => False) H w w') : RowL w' g m s f :=
  ⟨h.row.of_block (k.block g h.row.lt hne (fun x => x)), fun j hj => ⟨seg_kp (h.sg j hj).1 (h.sg j hj).2 r k, (h.sg j hj).2.mono k.size⟩⟩

def cirF (lp : Option Addr) (lc m : Nat) (H : Nat → Nat) (j : Nat) : Value := stoF (j / 3) lp lc m (H (j / 3)) (j % 3)
/-- The rows of what each branch has. -/
def isR (R : Nat → Nat) (n k : Nat) : Prop := ∃ i, i < n ∧ k = R i
/-- The circle, in memory. -/
structure CcI (B C : Nat) (H : Nat → Nat) (w0 w : World) (lp : Option Addr) (lc n : Nat) (L : List Int) (s : Plain.Stt) : Prop where
  row : w.rowIs C 57 (n * 3) (cirF lp lc L.length H)
  rs : ∀ i, i < n → ∃ f, RowL w (H i) L.length (s i) f
  ds : ∀ i j, i < n → j < n → H i = H j → i = j
  ge : ∀ i, i < n → B ≤ H i
  lab : Nums w lp L
  be : Below B w0 w
def cirW (lp : Option Addr) (lc n m : Nat) (H : Nat → Nat) : Win := ⟨57, n * 3, cirF lp lc m H⟩
theorem cirW_f (lp : Option Addr) (lc n m : Nat) (H : Nat → Nat) (i j : Nat) : (cirW lp lc n m H).f (i * 3) 3 (stoF i lp lc m (H i)) j = cirF lp lc m H j := by
  unfold Win.f
  by_cases h : i * 3 ≤ j ∧ j < i * 3 + 3
  · rw [if_pos h]
    unfold cirF
    rw [show j / 3 = i by omega, show j % 3 = j - i * 3 by omega]
  · rw [if_neg h]; rfl
namespace CcI
variable {B C lc n : Nat} {H : Nat → Nat} {w0 w w' : World} {lp : Option Addr} {L : List Int} {s s' : Plain.Stt}
theorem grow (h : CcI B C H w0 w lp lc n L s) (hB : B ≤ w.heap.size) (b : Below w.heap.size w w') : CcI B C H w0 w' lp lc n L s :=
  ⟨h.row.of_block (b.block _ h.row.lt), fun i hi => by obtain ⟨f, hf⟩ := h.rs i hi; exact ⟨f, hf.grow b⟩, h.ds, h.ge, h.lab.grow b, h.be.trans (b.mono hB)⟩
/-- The store of a branch. -/
theorem sto (h : CcI B C H w0 w lp lc n L s) {i : Nat} (hi : i < n) : StI C (i * 3) (cirW lp lc n L.length H) (H i) w i lp lc L (s i) :=
  ⟨World.rowIs.congr (g := (cirW lp lc n L.length H).f (i * 3) 3 (stoF i lp lc L.length (H i))) (show w.rowIs C 57 (n * 3) _ from h.row) fun j _ => (cirW_f lp lc n L.length H i j).symm, h.rs i hi, h.lab, by show i * 3 + 3 ≤ n * 3; omega, by show (57 : Nat) ≠ 39; decide⟩
/-- One store has turned. -/
theorem put (h : CcI B C H w0 w lp lc n L s) {i : Nat} (hi : i < n) {t : Nat → List Plain.En} (p : PutP C (i * 3) (cirW lp lc n L.length H) (H i) i lp lc L t w w') (hB : B ≤ w.heap.size) : CcI B C H w0 w' lp lc n L (fun a => if a = i then t else s a) := by
  obtain ⟨st, k⟩ := p
  obtain ⟨fi, hfi⟩ := h.rs i hi
  refine ⟨h.row.of_block (k.block C h.row.lt (h.sto hi).RH (fun x => x)), fun a ha => ?_, h.ds, h.ge, nums_kp h.lab hfi k, h.be.trans ⟨k.os, k.tape, k.output, k.size, fun b hb => k.block b (Nat.lt_of_lt_of_le hb hB) (fun e => by have := h.ge i hi; omega) (fun x => x)⟩⟩
  by_cases e : a = i
  · subst e
    rw [if_pos rfl]; exact st.hs
  · rw [if_neg e]
    obtain ⟨fa, hfa⟩ := h.rs a ha
    exact ⟨fa, hfa.kp hfi (fun x => e (h.ds a i ha hi x)) k⟩
theorem congr (h : CcI B C H w0 w lp lc n L s) (e : ∀ i j, i < n → j < L.length → s i j = s' i j) : CcI B C H w0 w lp lc n L s' :=
  ⟨h.row, fun i hi => by obtain ⟨f, hf⟩ := h.rs i hi; exact ⟨f, hf.congr fun j hj => e i j hi hj⟩, h.ds, h.ge, h.lab, h.be⟩
end CcI
/-- What a turn comes to, in memory. -/
def DoP (B C : Nat) (H : Nat → Nat) (w0 : World) (lp : Option Addr) (lc n : Nat) (L : List Int) (s : Plain.Stt) (t : Plain.Tu) (w : World) (e : Ending) (w' : World) : Prop :=
  e = .returned (.int .i64 (Plain.tuE n L s t : Nat)) ∧ CcI B C H w0 w' lp lc n L (Plain.tuS n L s t) ∧ Un (isR H n) w w'
theorem doP_no {B C : Nat} {H : Nat → Nat} {w0 : World} {lp : Option Addr} {lc n : Nat} {L : List Int} {s : Plain.Stt} {t : Plain.Tu} {w w' : World} {E : Nat} (hE : Plain.tuE n L s t = E) (h0 : E ≠ 0) (hB : B ≤ w.heap.size) (I : CcI B C H w0 w lp lc n L s) (b : Below w.heap.size w w') :
    DoP B C H w0 lp lc n L s t w (.returned (.int .i64 (E : Nat))) w' := by
  refine ⟨by rw [hE], ?_, Un.of_below b⟩
  have e : Plain.tuS n L s t = s := by unfold Plain.tuS; rw [if_pos (by rw [hE]; exact h0)]
  rw [e]
  exact I.grow hB b
theorem Kp.un {H : Nat → Nat} {n i : Nat} (hi : i < n) {w w' : World} (k : Kp (fun _ => False) (H i) w w') : Un (isR H n) w w' :=
  ⟨k.os, k.tape, k.output, k.size, fun b hb hn => k.block b hb (fun e => hn ⟨i, hi, e⟩) (fun x => x)⟩
namespace Plain
theorem tuE_w {n : Nat} {L : List Int} {s : Stt} {i : Nat} (hi : i < n) (tz la ke va : Int) : tuE n L s ⟨1, i, tz, la, ke, va⟩ = wrE L i la ke va := by
  have h := tuE_rf (n := n) (L := L) (s := s) (t := ⟨1, i, tz, la, ke, va⟩) (.inl rfl)
  rw [h]
  have hr : rfE n L ⟨1, i, tz, la, ke, va⟩ = wrE L i la ke va := by
    unfold rfE wrE rfS
    dsimp only
    rw [Int.toNat_natCast]
    by_cases h1 : (la < 0 ∨ (L.length : Int) ≤ la) ∨ (ke < 0 ∨ 7 < ke)
    · rw [if_pos (.inr h1), if_pos h1]
      split <;> rfl
    · rw [if_neg (by omega), if_neg h1]
      by_cases h2 : va < 0 ∨ 255 < va
      · rw [if_pos ⟨rfl, h2⟩, if_pos h2]
      · rw [if_neg (fun x => h2 x.2), if_neg h2]
  rw [hr]
  by_cases h0 : wrE L i la ke va ≠ 0
  · rw [if_pos h0]
  · rw [if_neg h0, if_neg (fun x => by have e : (1 : Int) = 2 := x.1; omega), Classical.not_not.1 h0]
theorem tuS_w {n : Nat} {L : List Int} {s : Stt} {i : Nat} (hi : i < n) (tz la ke va : Int) : tuS n L s ⟨1, i, tz, la, ke, va⟩ = fun a => if a = i then wrS L i (s i) la ke va else s a := by
  unfold tuS wrS
  rw [tuE_w hi]
  by_cases h0 : wrE L i la ke va ≠ 0
  · rw [if_pos h0]
    funext a
    split
    · rename_i e; rw [e]
    · rfl
  · rw [if_neg h0, if_neg (by show ¬ (1 : Int) = 3; decide)]
    funext a j
    unfold writeS
    dsimp only
    rw [Int.toNat_natCast]
    by_cases e : a = i
    · subst e
      rw [if_pos rfl, if_neg h0]
      by_cases e2 : j = la.toNat
      · subst e2
        rw [if_pos ⟨rfl, rfl⟩, if_pos rfl]
        rfl
      · rw [if_neg (fun x => e2 x.2), if_neg e2]
    · rw [if_neg (fun x => e x.1), if_neg e]
theorem tuE_e {n : Nat} {L : List Int} {s : Stt} {i : Nat} (hi : i < n) (tz la ke va : Int) : tuE n L s ⟨2, i, tz, la, ke, va⟩ = valE L i (s i) la ke := by
  have h := tuE_rf (n := n) (L := L) (s := s) (t := ⟨2, i, tz, la, ke, va⟩) (.inr rfl)
  rw [h]
  have hr : rfE n L ⟨2, i, tz, la, ke, va⟩ = rfS L i la ke := by
    unfold rfE rfS
    dsimp only
    rw [Int.toNat_natCast]
    by_cases h1 : (la < 0 ∨ (L.length : Int) ≤ la) ∨ (ke < 0 ∨ 7 < ke)
    · rw [if_pos (.inr h1), if_pos h1]
    · rw [if_neg (by omega), if_neg h1, if_neg (fun x => by have e : (2 : Int) = 1 := x.1; omega)]
  rw [hr]
  unfold valE
  dsimp only
  rw [Int.toNat_natCast]
  by_cases h0 : rfS L i la ke ≠ 0
  · rw [if_pos h0, if_pos h0]
  · rw [if_neg h0, if_neg h0]
    by_cases h1 : lives ke (s i la.toNat) = false
    · rw [if_pos ⟨rfl, h1⟩, if_pos h1]
    · rw [if_neg (fun x => h1 x.2), if_neg h1]
theorem tuS_e {n : Nat} {L : List Int} {s : Stt} {i : Nat} (hi : i < n) (tz la ke va : Int) : tuS n L s ⟨2, i, tz, la, ke, va⟩ = fun a => if a = i then erS L i (s i) la ke else s a := by
  unfold tuS erS
  rw [tuE_e hi]
  by_cases h0 : valE L i (s i) la ke ≠ 0
  · rw [if_pos h0]
    funext a
    split
    · rename_i e; rw [e]
    · rfl
  · rw [if_neg h0, if_neg (by show ¬ (2 : Int) = 3; decide)]
    funext a j
    unfold writeS
    dsimp only
    rw [Int.toNat_natCast]
    by_cases e : a = i
    · subst e
      rw [if_pos rfl, if_neg h0]
      by_cases e2 : j = la.toNat
      · subst e2
        rw [if_pos ⟨rfl, rfl⟩, if_pos rfl]
        rfl
      · rw [if_neg (fun x => e2 x.2), if_neg e2]
    · rw [if_neg (fun x => e x.1), if_neg e]
theorem tuE_t {n : Nat} {L : List Int} {s : Stt} {i j : Nat} (hi : i < n) (hj : j < n) (la ke va : Int) : tuE n L s ⟨3, i, j, la, ke, va⟩ = 0 := by
  unfold tuE
  dsimp only
  rw [if_neg (by omega), if_neg (by omega), if_pos rfl, if_neg (by omega)]
theorem tuS_t {n : Nat} {L : List Int} {s : Stt} {i j : Nat} (hi : i < n) (hj : j < n) (la ke va : Int) : tuS n L s ⟨3, i, j, la, ke, va⟩ = fun a => if a = j then heaK L i j (s j) (s i) L.length else s a := by
  unfold tuS
  rw [tuE_t hi hj, if_neg (by decide), if_pos rfl]
  funext a b
  unfold tellS heaK
  dsimp only
  rw [Int.toNat_natCast, Int.toNat_natCast]
  by_cases e : a = j
  · subst e
    rw [if_pos rfl]
    by_cases c : b < L.length ∧ (reads (labAt L b) i = true ∧ reads (labAt L b) a = true)
    · rw [if_pos ⟨⟨rfl, c.1⟩, c.2⟩, if_pos c]
    · rw [if_neg (fun x => c ⟨x.1.2, x.2⟩), if_neg c]
  · rw [if_neg (fun x => e x.1.1), if_neg e]
end Plain
end Go.Proofs.Ytiolkeghgodggak
