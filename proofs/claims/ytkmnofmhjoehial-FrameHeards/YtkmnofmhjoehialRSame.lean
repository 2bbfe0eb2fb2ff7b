/-
  A contract of the document's own comparison of bytes.
-/
import Derived.Test.YtkmnofmhjoehialSeg
import Derived.Laws.BytesArg
namespace Go.Proofs.Ytkmnofmhjoehial
open Go.RowKit

theorem conv_any {w : World} {u : Value} {bl : List Nat} (h : SegB w u bl) : ∃ s : ByteArray, (convert 26 9 u).run Try.prog w = .ok (.string s) w ∧ s.data.toList = bl.map UInt8.ofNat := by
  rcases h with ⟨rfl, p, c, rfl⟩ | ⟨b, o, c, rfl, g⟩
  · cases p with
    | none => exact ⟨_, run_convert_bytes_nil w 26 5 Try.underlying26 Try.underlying5 0 c 9 Try.underlying9, rfl⟩
    | some a =>
      refine ⟨_, (run_convert_bytes_string w 26 9 5 (some a) 0 c Try.underlying26 Try.underlying5 Try.underlying9).trans (run_bytesToString w a 0 c [] ?_), rfl⟩
      rfl
  · refine ⟨_, run_convert_bytes_arg w 26 5 Try.underlying26 Try.underlying5 b o bl.length c (bl.map (fun x : Nat => (x : Int))) (by simp) (fun i hi => ?_) 9 Try.underlying9, ?_⟩
    · rw [g i hi]; simp [hi]
    · rw [strOfNums_data]; simp

theorem ofNat_inj (bl cl : List Nat) (hb : ∀ x ∈ bl, x < 256) (hc : ∀ x ∈ cl, x < 256) (h : bl.map UInt8.ofNat = cl.map UInt8.ofNat) : bl = cl := by
  have key : ∀ l : List Nat, (∀ x ∈ l, x < 256) → (l.map UInt8.ofNat).map UInt8.toNat = l := by
    intro l hl
    rw [List.map_map]
    conv => rhs; rw [← List.map_id l]
    apply List.map_congr_left
    intro x hx
    have := hl x hx
    simp
    omega
  rw [← key bl hb, ← key cl hc, h]

set_option maxHeartbeats 400000 in
theorem rsame_any (u1 u2 : Value) (bl cl : List Nat) (hb : ∀ x ∈ bl, x < 256) (hc : ∀ x ∈ cl, x < 256) (w : World) (h1 : SegB w u1 bl) (h2 : SegB w u2 cl) :
    Calls Try.prog 42 #[u1, u2] w fun e w' => e = .returned (.bool (decide (bl = cl))) ∧ w' = w := by
  obtain ⟨s1, r1, e1⟩ := conv_any h1
  obtain ⟨s2, r2, e2⟩ := conv_any h2
  have HE := hid (show (s1.toList == s2.toList) = decide (bl = cl) by
    rw [Bool.eq_iff_iff, decide_eq_true_eq, beq_iff_eq, ByteArray.toList_eq, ByteArray.toList_eq, e1, e2]
    exact ⟨ofNat_inj bl cl hb hc, fun e => by rw [e]⟩)
  clear h1 h2 hb hc e1 e2
  go_enter Try.func42, Try.ntmps42
  go_wp2
  go_ret
  exact ⟨by rw [← HE.out]; rfl, rfl⟩
end Go.Proofs.Ytkmnofmhjoehial
