/-
  The document's Set.
-/
import Derived.Test.YtiolkeghgodggakRsm
namespace Go.Proofs.Ytiolkeghgodggak
open Go.RowKit Go.Shelf Go.Sort

theorem Plain.maxA_some {f : Nat → Option Plain.En} {k : Nat} {e : Plain.En} (h : f k = some e) : Plain.maxA f (k + 1) = max (Plain.maxA f k) e.time := by
  show (match f k with | some e => max (Plain.maxA f k) e.time | none => Plain.maxA f k) = _
  rw [h]
theorem Plain.maxA_none {f : Nat → Option Plain.En} {k : Nat} (h : f k = none) : Plain.maxA f (k + 1) = Plain.maxA f k := by
  show (match f k with | some e => max (Plain.maxA f k) e.time | none => Plain.maxA f k) = _
  rw [h]

theorem setE_block {w : World} {g o b : Nat} (e : Plain.En) (h : ¬ g = b) : (setE w g o e).heap[b]? = w.heap[b]? := by
  have h' : b ≠ g := fun x => h x.symm
  unfold setE
  rw [Below.heap_setCell _ ⟨g, o + 4, none⟩ _ b h', Below.heap_setCell _ ⟨g, o + 3, none⟩ _ b h', Below.heap_setCell _ ⟨g, o + 2, none⟩ _ b h', Below.heap_setCell _ ⟨g, o + 1, none⟩ _ b h', Below.heap_setCell _ ⟨g, o, none⟩ _ b h']
theorem setE_cell {w : World} {g o b x : Nat} (e : Plain.En) (h : ¬ g = b) : (setE w g o e).cell? ⟨b, x, none⟩ = w.cell? ⟨b, x, none⟩ := by simp only [World.cell?, setE_block e h]
theorem setE_frozen {w : World} {g o b x : Nat} (e : Plain.En) (h : ¬ g = b) : (setE w g o e).frozen? ⟨b, x, none⟩ = w.frozen? ⟨b, x, none⟩ := by simp only [World.frozen?, setE_block e h]

set_option maxHeartbeats 4000000 in
set_option maxRecDepth 100000 in
theorem set_c (B S HO IO : Nat) (hb ib : Nat → Nat) (w0 : World) (lp : Option Addr) (lc n m hc ic : Nat) (f : Plain.Shv) (i j k : Nat) (v : Int) (gn : Bool) (hi : i < n) (hj : j < m) (hk : k < 8) (T : Int) (hT : Plain.maxA (f i j) 8 ≤ T ∧ T < 1000000) (w : World) (I : ShI B S HO IO hb ib w0 w lp lc n m hc ic f) :
    Calls Try.prog 43 #[.pointer (some ⟨S, 0, none⟩), .int .i64 (i : Int), .int .i64 (j : Int), .int .i64 (k : Int), .int .i64 v, .bool gn] w fun e w' => e = .returned (.tuple #[]) ∧ ShI B S HO IO hb ib w0 w' lp lc n m hc ic (f.upd i j k ⟨(k : Int), v, Plain.maxA (f i j) 8 + 1, (i : Int), gn⟩) ∧ Un (isS hb ib n) w w' := by
  have x1 := I.cell1
  have x2 := I.cell2
  have xh := I.cellH hi
  have xi := I.cellI hi
  have hiz : (i : Int) < (n : Int) := by omega
  have hjz : (j : Int) < (m : Int) := by omega
  have hkz : (k : Int) < 8 := by omega
  have HI := hid I
  have HP := hid (fun e => I.put hi hj hk e)
  have HU := hid (fun e => put_un (hb := hb) (ib := ib) hi w (j * 40 + k * 5) (j * 8 + k) e (.bool true))
  have HMX := hid (show ∀ q, q ≤ 8 → 0 ≤ Plain.maxA (f i j) q ∧ Plain.maxA (f i j) q ≤ Plain.maxA (f i j) 8 from fun q hq => by
    rw [← Plain.maxA_list, ← Plain.maxA_list]
    refine ⟨Plain.maxT_pos _, Plain.maxT_le (Plain.maxT_pos _) fun e he => ?_⟩
    obtain ⟨c, hc1, hc2⟩ := Plain.listA_mem.1 he
    exact Plain.maxT_ge (Plain.listA_mem.2 ⟨c, by omega, hc2⟩))
  clear I
  go_enter Try.func43, Try.ntmps43
  go_wp2
  go_loopg [12, 13, 14] 8 (fun gg s12 _ s14 wx => ∃ (q : Nat) (t : Int), q ≤ 8 ∧ 8 - q ≤ gg ∧ s14 = .int .i64 q ∧ s12 = .int .i64 t ∧ Aside (t = Plain.maxA (f i j) q) ∧ wx = w)
  case atStart => exact ⟨0, 0, Nat.zero_le _, by omega, rfl, rfl, (show Aside _ from rfl), rfl⟩
  case round =>
    obtain ⟨q, t, hq, hg, rfl, rfl, HT, hw⟩ := hrel
    have hy := hw.symm
    clear hw
    subst hy
    by_cases hlt : q < 8
    · have hltz : (q : Int) < 8 := by omega
      have c0 := (HI.out.isAt hi hj hlt).1
      cases hf : f i j q with
      | none =>
        rw [hf] at c0
        have c0' : w.cell? ⟨ib i, j * 8 + q, none⟩ = some (.bool false) := c0
        have HN := hid (show t = Plain.maxA (f i j) (q + 1) by rw [Plain.maxA_none hf]; exact HT.out)
        clear c0 hf HT
        go_wp2
        go_roundg (8 - (q + 1))
        case measure => omega
        case rel => exact ⟨q + 1, t, by omega, by omega, by go_num, rfl, (show Aside _ from HN.out), rfl⟩
      | some e =>
        rw [hf] at c0
        have c0' : w.cell? ⟨ib i, j * 8 + q, none⟩ = some (.bool true) := c0
        obtain ⟨e0, e1, e2, e3, e4⟩ := HI.out.enAt hi hj hlt hf
        have HN := hid (show max t e.time = Plain.maxA (f i j) (q + 1) by rw [Plain.maxA_some hf, ← HT.out])
        clear c0 hf HT
        by_cases hte : t < e.time
        · have HN2 := hid (show e.time = Plain.maxA (f i j) (q + 1) by rw [← HN.out]; omega)
          clear HN
          go_wp2
          go_roundg (8 - (q + 1))
          case measure => omega
          case rel => exact ⟨q + 1, e.time, by omega, by omega, by go_num, rfl, (show Aside _ from HN2.out), rfl⟩
        · have HN2 := hid (show t = Plain.maxA (f i j) (q + 1) by rw [← HN.out]; omega)
          clear HN
          go_wp2
          go_roundg (8 - (q + 1))
          case measure => omega
          case rel => exact ⟨q + 1, t, by omega, by omega, by go_num, rfl, (show Aside _ from HN2.out), rfl⟩
    · have hltz : ¬ (q : Int) < 8 := by omega
      have hq8 : q = 8 := by omega
      have HT2 := hid (show t = Plain.maxA (f i j) 8 by rw [HT.out, hq8])
      have hb1 := HMX.out 8 (Nat.le_refl _)
      rw [← HT2.out] at hb1 hT
      obtain ⟨a0, g0, z0⟩ := HI.out.some hi (x := j * 40 + k * 5) (by omega)
      obtain ⟨a1, g1, z1⟩ := HI.out.some hi (x := j * 40 + k * 5 + 1) (by omega)
      obtain ⟨a2, g2, z2⟩ := HI.out.some hi (x := j * 40 + k * 5 + 2) (by omega)
      obtain ⟨a3, g3, z3⟩ := HI.out.some hi (x := j * 40 + k * 5 + 3) (by omega)
      obtain ⟨a4, g4, z4⟩ := HI.out.some hi (x := j * 40 + k * 5 + 4) (by omega)
      have iA := (HI.out.isAt hi hj hk).1
      have iZ := (HI.out.isAt hi hj hk).2
      have HP2 := hid (HP.out ⟨(k : Int), v, t + 1, (i : Int), gn⟩)
      have HU2 := hid (HU.out ⟨(k : Int), v, t + 1, (i : Int), gn⟩)
      have hS1 := HI.out.bx.lt
      have n1 : ¬ hb i = S := by obtain ⟨F, r, _⟩ := HI.out.hr i hi; exact rows_ne r HI.out.bx (by decide)
      have n2 : ¬ hb i = IO := by obtain ⟨F, r, _⟩ := HI.out.hr i hi; obtain ⟨M, g, r', _⟩ := HI.out.io; exact rows_ne r r' (by decide)
      have n3 : ¬ hb i = ib i := by obtain ⟨F, r, _⟩ := HI.out.hr i hi; obtain ⟨G, r', _⟩ := HI.out.ir i hi; exact rows_ne r r' (by decide)
      clear HT HP HU HMX
      go_upto_region 8 with fail
      obtain ⟨W1, hW1⟩ : ∃ W1, W1 = setE w (hb i) (j * 40 + k * 5) ⟨(k : Int), v, t + 1, (i : Int), gn⟩ := ⟨_, rfl⟩
      have m2 : W1.cell? ⟨S, 2, none⟩ = some (.slice (some ⟨IO, 0, none⟩) n ic) := by rw [hW1, setE_cell _ n1]; exact x2
      have mi : W1.cell? ⟨IO, i, none⟩ = some (.slice (some ⟨ib i, 0, none⟩) m m) := by rw [hW1, setE_cell _ n2]; exact xi
      have mA : W1.cell? ⟨ib i, j * 8 + k, none⟩ = some (.bool (f i j k).isSome) := by rw [hW1, setE_cell _ n3]; exact iA
      have mZ : W1.frozen? ⟨ib i, j * 8 + k, none⟩ = false := by rw [hW1, setE_frozen _ n3]; exact iZ
      rw [← hW1] at HP2 HU2
      unfold setE at hW1
      dsimp only at hW1
      rw [← hW1]
      generalize (f i j k).isSome = bs at mA
      clear hW1 x1 x2 xh xi iA iZ g0 g1 g2 g3 g4 z0 z1 z2 z3 z4
      go_wp2
      go_end0
      exact ⟨rfl, by rw [← HT2.out]; exact HP2.out, HU2.out⟩
end Go.Proofs.Ytiolkeghgodggak
