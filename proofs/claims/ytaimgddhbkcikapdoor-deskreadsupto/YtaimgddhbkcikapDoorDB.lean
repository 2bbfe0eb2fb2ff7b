/-
  strings.Cut at a blank; strconv.Atoi, however it ends; desk.kindOf.
-/
import Derived.Test.YtaimgddhbkcikapDoorDA
import Derived.Test.YtaimgddhbkcikapDoorD4
import Derived.Lib.IndexLaws
import Derived.Laws.DeepStrings4
import Derived.Shelf.RegionOpenPlain
namespace Go.Proofs.YtaimgddhbkcikapDoor
open Go Go.RowKit Go.Sort Go.Shelf
open Plain
set_option maxRecDepth 100000

/-- What stands ahead of the first blank, and what behind it. -/
def cutA : List UInt8 → List UInt8
  | [] => []
  | b :: l => if b == 32 then [] else b :: cutA l
def cutB : List UInt8 → List UInt8
  | [] => []
  | b :: l => if b == 32 then l else cutB l
def cutF : List UInt8 → Bool
  | [] => false
  | b :: l => if b == 32 then true else cutF l
theorem cut_none : ∀ {l : List UInt8}, Lib.indexByte l 32 = -1 → cutA l = l ∧ cutB l = [] ∧ cutF l = false
  | [], _ => ⟨rfl, rfl, rfl⟩
  | b :: l, h => by
    simp only [Lib.indexByte] at h
    by_cases hb : (b == 32) = true
    · rw [if_pos hb] at h; omega
    · rw [if_neg hb] at h
      by_cases hi : (Lib.indexByte l 32 == -1) = true
      · obtain ⟨h1, h2, h3⟩ := cut_none (eq_of_beq hi)
        simp only [cutA, cutB, cutF, if_neg hb, h1, h2, h3, and_self]
      · rw [if_neg hi] at h
        have := Lib.indexByte_ge l 32
        have : Lib.indexByte l 32 ≠ -1 := by simpa using hi
        omega
theorem cut_some : ∀ {l : List UInt8} {i : Nat}, Lib.indexByte l 32 = i → cutA l = l.take i ∧ cutB l = l.drop (i + 1) ∧ cutF l = true ∧ i < l.length
  | [], i, h => by simp only [Lib.indexByte] at h; omega
  | b :: l, i, h => by
    simp only [Lib.indexByte] at h
    by_cases hb : (b == 32) = true
    · rw [if_pos hb] at h
      obtain rfl : i = 0 := by omega
      simp [cutA, cutB, cutF, hb]
    · rw [if_neg hb] at h
      by_cases hi : (Lib.indexByte l 32 == -1) = true
      · rw [if_pos hi] at h; omega
      · rw [if_neg hi] at h
        obtain ⟨j, rfl⟩ : ∃ j, i = j + 1 := ⟨i - 1, by have := Lib.indexByte_ge l 32; have : Lib.indexByte l 32 ≠ -1 := by simpa using hi
                                                       omega⟩
        obtain ⟨h1, h2, h3, h4⟩ := cut_some (l := l) (i := j) (by omega)
        simp only [cutA, cutB, cutF, if_neg hb, h1, h2, h3, List.take_succ_cons, List.drop_succ_cons, List.length_cons]
        exact ⟨trivial, trivial, trivial, by omega⟩
theorem cut_len (l : List UInt8) : (cutA l).length ≤ l.length ∧ (cutB l).length ≤ l.length := by
  induction l with
  | nil => simp [cutA, cutB]
  | cons b l ih =>
    simp only [cutA, cutB]
    split <;> simp <;> omega
theorem idx_cases (l : List UInt8) : Lib.indexByte l 32 = -1 ∨ ∃ i : Nat, Lib.indexByte l 32 = i := by
  have := Lib.indexByte_ge l 32
  rcases Int.lt_or_le (Lib.indexByte l 32) 0 with h | h
  · exact .inl (by omega)
  · exact .inr ⟨(Lib.indexByte l 32).toNat, by omega⟩

theorem ext0 (l : List UInt8) (i : Nat) : (⟨l.toArray⟩ : ByteArray).extract 0 i = ⟨(l.take i).toArray⟩ := ByteArray.ext (by simp [ByteArray.data_extract])
theorem ext1 (l : List UInt8) (i : Nat) : (⟨l.toArray⟩ : ByteArray).extract (i + 1) l.length = ⟨(l.drop (i + 1)).toArray⟩ := ByteArray.ext (by simp [ByteArray.data_extract]; rw [List.take_of_length_le (by simp)])
set_option maxHeartbeats 4000000 in
theorem lcut_c (l : List UInt8) (hl : l.length ≤ 281474976710656) (w : World) : Calls Tryd.prog 24 #[bs l, .string ⟨#[32]⟩] w fun e w' => e = .returned (.tuple #[bs (cutA l), bs (cutB l), .bool (cutF l)]) ∧ ∃ n, w' = w.drewN n := by
  have KI := hid (fun w => Tryd.stringslite_Index_one ⟨l.toArray⟩ 32 w)
  rcases idx_cases l with h | ⟨i, h⟩
  · obtain ⟨h1, h2, h3⟩ := cut_none h
    rw [h1, h2, h3]
    have K1 := hid (show Calls Tryd.prog 31 #[.string ⟨l.toArray⟩, .string ⟨#[32]⟩] w fun e w' => e = .returned (.int .i64 (-1)) ∧ w' = w by rw [← h]; exact KI.out w)
    clear KI h h1 h2 h3
    go_enter Tryd.func24, Tryd.ntmps24
    go_wp2_with (go_at_call 31; refine K1.out.mono ?_; rintro e w' ⟨rfl, rfl⟩)
    go_ret3
    exact ⟨rfl, 0, rfl⟩
  · obtain ⟨h1, h2, h3, h4⟩ := cut_some h
    have K1 := hid (show Calls Tryd.prog 31 #[.string ⟨l.toArray⟩, .string ⟨#[32]⟩] w fun e w' => e = .returned (.int .i64 (i : Int)) ∧ w' = w by rw [← h]; exact KI.out w)
    rw [h3]
    have HA := hid h1
    have HB := hid h2
    clear KI h h1 h2 h3
    have mixed : Tryd.prog.follows .mixedOrders = true := by kernel_rfl
    have hwr : IntKind.i64.wrap ((i : Int) + 1) = (i : Int) + 1 := by rw [IntKind.wrap_i64]; omega
    have c1 : (0 : Int) ≤ i := by omega
    have c2 : (i : Int) ≤ l.length := by omega
    have c3 : (0 : Int) ≤ i + 1 := by omega
    have c4 : (i + 1 : Int) ≤ l.length := by omega
    go_enter Tryd.func24, Tryd.ntmps24
    go_wp2_with (go_at_call 31; refine K1.out.mono ?_; rintro e w' ⟨rfl, rfl⟩)
    go_region_o
    go_wp2
    go_ret3
    refine ⟨?_, 1, rfl⟩
    rw [HA.out, HB.out, show bs (l.take i) = .string ((⟨l.toArray⟩ : ByteArray).extract 0 i) by rw [ext0], show bs (l.drop (i + 1)) = .string ((⟨l.toArray⟩ : ByteArray).extract (i + 1) l.length) by rw [ext1]]
    rfl
/-- strings.Cut. -/
theorem cut_c (l : List UInt8) (hl : l.length ≤ 281474976710656) (w : World) : Calls Tryd.prog 20 #[bs l, .string ⟨#[32]⟩] w fun e w' => e = .returned (.tuple #[bs (cutA l), bs (cutB l), .bool (cutF l)]) ∧ ∃ n, w' = w.drewN n := by
  have K := hid (lcut_c l hl w)
  obtain ⟨ca, ha⟩ : ∃ ca, ca = cutA l := ⟨_, rfl⟩
  obtain ⟨cb, hb⟩ : ∃ cb, cb = cutB l := ⟨_, rfl⟩
  obtain ⟨cf, hf⟩ : ∃ cf, cf = cutF l := ⟨_, rfl⟩
  rw [← ha, ← hb, ← hf] at K ⊢
  clear ha hb hf
  go_enter Tryd.func20, Tryd.ntmps20
  go_wp2_with (go_at_call 24; refine K.out.mono ?_; rintro e w' ⟨rfl, n, rfl⟩)
  go_ret3
  exact ⟨rfl, n, rfl⟩
/-- The number that a text tells, or what stands in its place. -/
def atoV (l : List UInt8) : Int := match Lib.atoiAll l with | .ok v => v | .syntax => 0 | .range => Lib.atoiSat l
/-- A variable holds an error. -/
def ErrB (B : Nat) (w : World) (name : String) : Prop := ∃ tp p, ∀ w', Below B w w' → w'.var? Tryd.prog name = some #[.iface tp p]
theorem ErrB.on {B : Nat} {w w' : World} {name : String} (h : ErrB B w name) (hb : Below B w w') : ErrB B w' name := by
  obtain ⟨tp, p, h⟩ := h
  exact ⟨tp, p, fun w2 h2 => h w2 (hb.trans h2)⟩
theorem errB_of {w : World} {name : String} {tp : TypeId} {p : Value} (h : w.var? Tryd.prog name = some #[.iface tp p]) : ErrB w.heap.size w name := ⟨tp, p, fun w' hb => by
  unfold World.var? at *
  cases hg : Tryd.prog.globalNamed name with
  | none => simp [hg] at h
  | some g =>
    simp only [hg, Option.bind_some] at h ⊢
    have hlt : g < w.heap.size := by
      rcases Nat.lt_or_ge g w.heap.size with h' | h'
      · exact h'
      · rw [Array.getElem?_eq_none h'] at h; simp at h
    rw [hb.block g hlt]
    exact h⟩
structure EnvR (B : Nat) (w : World) : Prop where
  env : Env B w
  syn : ErrB B w "strconv.ErrSyntax"
  rng : ErrB B w "strconv.ErrRange"
theorem EnvR.on {B : Nat} {w w' : World} (h : EnvR B w) (hb : Below B w w') : EnvR B w' := ⟨h.env.on hb, h.syn.on hb, h.rng.on hb⟩
theorem EnvR.up {B : Nat} {w : World} (h : EnvR B w) : EnvR w.heap.size w := by
  obtain ⟨tp, p, h1⟩ := h.syn
  obtain ⟨tq, q, h2⟩ := h.rng
  exact ⟨h.env.up, errB_of (h1 w (Below.refl _ _)), errB_of (h2 w (Below.refl _ _))⟩
/-- strconv.Atoi, however it ends. -/
theorem atoi_c (l : List UInt8) (hl : l.length ≤ 281474976710656) (w : World) {B : Nat} (hE : EnvR B w) : Calls Tryd.prog 22 #[bs l] w fun e w' => ∃ ev, e = .returned (.tuple #[.int .i64 (atoV l), ev]) ∧ Below w.heap.size w w' := by
  have hs : (⟨l.toArray⟩ : ByteArray).size = l.length := by simp [ByteArray.size]
  have hd : (⟨l.toArray⟩ : ByteArray).data.toList = l := by simp
  cases h : Lib.atoiAll l with
  | ok v =>
    have e1 : atoV l = v := by unfold atoV; rw [h]
    refine (Tryd.strconv_Atoi_ok ⟨l.toArray⟩ (by rw [hs]; omega) v (by rw [hd]; exact h) w).mono ?_
    rintro e w' ⟨rfl, hw⟩
    refine ⟨_, by rw [e1], ?_⟩
    rcases hw with rfl | ⟨t, rfl⟩
    · exact Below.refl _ _
    · exact Lib.bytesWorld_below _ _ _
  | «syntax» =>
    have e1 : atoV l = 0 := by unfold atoV; rw [h]
    obtain ⟨tp, p, hv⟩ := hE.syn
    refine (Tryd.strconv_Atoi_syntax_var ⟨l.toArray⟩ (by rw [hs]; omega) (by rw [hd]; exact h) tp p w (hv w (Below.refl _ _))).mono ?_
    rintro e w' ⟨N, rfl, _, _, hb⟩
    exact ⟨_, by rw [e1], hb⟩
  | range =>
    have e1 : atoV l = Lib.atoiSat l := by unfold atoV; rw [h]
    obtain ⟨tp, p, hv⟩ := hE.rng
    refine (Tryd.strconv_Atoi_range_var ⟨l.toArray⟩ (by rw [hs]; omega) (by rw [hd]; exact h) tp p w (hv w (Below.refl _ _))).mono ?_
    rintro e w' ⟨N, rfl, _, _, hb⟩
    exact ⟨_, by rw [e1], hb⟩
end Go.Proofs.YtaimgddhbkcikapDoor
