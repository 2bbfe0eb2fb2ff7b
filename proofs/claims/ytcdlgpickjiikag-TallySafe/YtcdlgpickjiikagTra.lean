/-
  A contract of tally.raise.
-/
import Derived.Test.YtcdlgpickjiikagTc
namespace Go.Proofs.Ytcdlgpickjiikag
open Go.RowKit Go.Sort

/-- Only block g has been written. -/
structure Touch (g : Nat) (w w' : World) : Prop where
  bel : Below g w w'
  up : ∀ k, k ≠ g → w'.heap[k]? = w.heap[k]?
  sz : w'.heap.size = w.heap.size
theorem Touch.refl (g : Nat) (w : World) : Touch g w w := ⟨Below.refl _ _, fun _ _ => rfl, rfl⟩
theorem Touch.set {g : Nat} {w w' : World} (h : Touch g w w') (i : Nat) (v : Value) : Touch g w (w'.setCell ⟨g, i, none⟩ v) :=
  ⟨h.bel.setCell (p := ⟨g, i, none⟩) (Nat.le_refl _) _, fun k hk => (Below.heap_setCell _ _ _ _ (show k ≠ (⟨g, i, none⟩ : Addr).block from hk)).trans (h.up k hk), by simpa [World.setCell] using h.sz⟩
theorem Touch.cell {g b i : Nat} {w w' : World} (h : Touch g w w') (hb : b ≠ g) : w'.cell? ⟨b, i, none⟩ = w.cell? ⟨b, i, none⟩ := by
  simp only [World.cell?, h.up b hb]

set_option maxHeartbeats 1000000 in
theorem raise_c (g cg tb to ct n : Nat) (a b : List Int) (w : World) (hr : RowI w g a) (ha : a.length = n) (n8 : n ≤ 8) (hne : tb ≠ g) (hc : ∀ j, j < n → w.cell? ⟨tb, to + j, none⟩ = some (.int .i64 (b.getD j 0))) :
    Calls Try.prog 18 #[.slice (some ⟨g, 0, none⟩) n cg, .slice (some ⟨tb, to, none⟩) n ct] w fun e w' => e = .returned (.tuple #[]) ∧ RowI w' g (Plain.joinR a b) ∧ Touch g w w' := by
  have HA := hid ha
  have HC := hid hc
  have HR0 := hid hr
  clear ha hc hr
  go_enter Try.func18, Try.ntmps18
  go_wp2
  go_loopw [8] (fun i wr => ∃ k : Nat, k ≤ n ∧ i = .int .i64 k ∧ RowI wr g (Plain.upTo a b k) ∧ Touch g w wr) (fun i _ => n - (intOf i).toNat)
  case atStart => exact ⟨0, Nat.zero_le _, rfl, by rw [Plain.upTo_zero]; exact HR0.out, Touch.refl _ _⟩
  case round =>
    obtain ⟨k, hk, rfl, hrow, htch⟩ := hrel
    have HR := hid hrow
    have HT := hid htch
    clear hrow htch
    by_cases hlt : k < n
    · have hlt' : (k : Int) < (n : Int) := by omega
      have kl : k < a.length := by have := HA.out; omega
      have c1 := (HT.out.cell hne).trans (HC.out k hlt)
      have c2 := HR.out.cell (i := k) (by rw [Plain.upTo_len]; exact kl)
      rw [Plain.upTo_at _ _ _ _ kl, if_neg (Nat.lt_irrefl _)] at c2
      have c3 := HR.out.frozen k
      have c4 := HR.out.lt
      have NX := hid (show ∀ m, m = max (a.getD k 0) (b.getD k 0) → RowI (wr.setCell ⟨g, k, none⟩ (.int .i64 m)) g (Plain.upTo a b (k + 1)) from fun m hm => by
        rw [← Plain.upTo_set a b k kl, ← hm]
        exact HR.out.set k (by rw [Plain.upTo_len]; exact kl) m)
      clear kl
      generalize a.getD k 0 = x at *
      generalize b.getD k 0 = y at *
      by_cases hxy : x < y
      · go_wp2
        go_roundw
        case rel => exact ⟨k + 1, by omega, by go_num, NX.out _ (by omega), HT.out.set _ _⟩
        case measure => simp [intOf]; omega
      · go_wp2
        go_roundw
        case rel => exact ⟨k + 1, by omega, by go_num, NX.out _ (by omega), HT.out.set _ _⟩
        case measure => simp [intOf]; omega
    · have ek : k = n := by omega
      have hnlt : ¬ (k : Int) < (n : Int) := by omega
      have R := hid (show RowI wr g (Plain.joinR a b) by have := HR.out; rwa [ek, ← HA.out, Plain.upTo_all] at this)
      clear ek
      go_wp2
      go_end0
      exact ⟨rfl, R.out, HT.out⟩
end Go.Proofs.Ytcdlgpickjiikag
