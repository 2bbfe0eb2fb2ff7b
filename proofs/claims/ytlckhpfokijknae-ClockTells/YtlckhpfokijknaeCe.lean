/-
  Events in memory; a contract of clock.refuseEvent.
-/
import Derived.Test.YtlckhpfokijknaeCj
namespace Go.Proofs.Ytlckhpfokijknae
open Go.RowKit

/-- The cells of the events l, three each, from ⟨b, off⟩ on. -/
def CellsE (w : World) (b off : Nat) (l : List Plain.Ev) : Prop :=
  ∀ j, j < l.length → w.cell? ⟨b, off + j * 3, none⟩ = some (.int .i64 (Plain.ev l j).1) ∧ w.cell? ⟨b, off + j * 3 + 1, none⟩ = some (.int .i64 (Plain.ev l j).2.1) ∧ w.cell? ⟨b, off + j * 3 + 2, none⟩ = some (.int .i64 (Plain.ev l j).2.2)
/-- The slice v holds the events l. -/
def SegE (w : World) (v : Value) (l : List Plain.Ev) : Prop :=
  (l = [] ∧ ∃ p cap, v = .slice p 0 cap) ∨ ∃ b off cap, v = .slice (some ⟨b, off, none⟩) l.length cap ∧ l.length ≤ cap ∧ CellsE w b off l
theorem CellsE.below {w w' : World} {b off B : Nat} {l : List Plain.Ev} (h : CellsE w b off l) (hb : Below B w w') (hlt : b < B) : CellsE w' b off l := fun j hj =>
  ⟨(hb.cell (p := ⟨b, off + j * 3, none⟩) hlt).trans (h j hj).1, (hb.cell (p := ⟨b, off + j * 3 + 1, none⟩) hlt).trans (h j hj).2.1, (hb.cell (p := ⟨b, off + j * 3 + 2, none⟩) hlt).trans (h j hj).2.2⟩
theorem SegE.below {w w' : World} {v : Value} {l : List Plain.Ev} {B : Nat} (h : SegE w v l) (hb : Below B w w') (hv : Lies B v) : SegE w' v l := by
  rcases h with ⟨rfl, p1, c1, rfl⟩ | ⟨b1, o1, c1, rfl, hc1, g1⟩
  · exact .inl ⟨rfl, p1, c1, rfl⟩
  · by_cases h0 : 0 < l.length
    · exact .inr ⟨b1, o1, c1, rfl, hc1, g1.below hb (hv ⟨b1, o1, none⟩ _ _ rfl h0)⟩
    · exact .inr ⟨b1, o1, c1, rfl, hc1, fun j hj => by omega⟩

theorem evE_kind {S : Int} {l : List Plain.Ev} {i : Nat} {k w o : Int} (h : Plain.ev l i = (k, w, o)) (h1 : ¬ k = 1) (h2 : ¬ k = 2) (h3 : ¬ k = 3) : Plain.evE S l i = 3 := by
  unfold Plain.evE; rw [h, if_pos ⟨h1, h2, h3⟩]
theorem evE_who {S : Int} {l : List Plain.Ev} {i : Nat} {k w o : Int} (h : Plain.ev l i = (k, w, o)) (hk : k = 1 ∨ k = 2 ∨ k = 3) (hw : w < 0 ∨ S ≤ w) : Plain.evE S l i = 2 := by
  unfold Plain.evE; rw [h, if_neg (by intro ⟨a, b, c⟩; simp only at a b c; omega), if_pos hw]
theorem evE_act {S : Int} {l : List Plain.Ev} {i : Nat} {k w o : Int} (h : Plain.ev l i = (k, w, o)) (hk : k = 1 ∨ k = 2) (hw : 0 ≤ w ∧ w < S) : Plain.evE S l i = 0 := by
  unfold Plain.evE; rw [h, if_neg (by intro ⟨a, b, c⟩; simp only at a b c; omega), if_neg (by simp only; omega), if_pos (by simp only; omega)]
theorem evE_far {S : Int} {l : List Plain.Ev} {i : Nat} {w o : Int} (h : Plain.ev l i = (3, w, o)) (hw : 0 ≤ w ∧ w < S) (ho : o < 0 ∨ (i : Int) ≤ o) : Plain.evE S l i = 2 := by
  unfold Plain.evE; rw [h, if_neg (by intro ⟨a, b, c⟩; simp only at a b c; omega), if_neg (by simp only; omega), if_neg (by simp), if_pos ho]
theorem evE_no {S : Int} {l : List Plain.Ev} {i n : Nat} {w : Int} (h : Plain.ev l i = (3, w, (n : Int))) (hw : 0 ≤ w ∧ w < S) (ho : n < i) (hk : ¬ (Plain.ev l n).1 = 2) : Plain.evE S l i = 4 := by
  unfold Plain.evE Plain.kd Plain.ofp; rw [h, if_neg (by intro ⟨a, b, c⟩; simp only at a b c; omega), if_neg (by simp only; omega), if_neg (by simp), if_neg (by simp only; omega), if_pos (by simpa using hk)]
theorem evE_yes {S : Int} {l : List Plain.Ev} {i n : Nat} {w : Int} (h : Plain.ev l i = (3, w, (n : Int))) (hw : 0 ≤ w ∧ w < S) (ho : n < i) (hk : (Plain.ev l n).1 = 2) : Plain.evE S l i = 0 := by
  unfold Plain.evE Plain.kd Plain.ofp; rw [h, if_neg (by intro ⟨a, b, c⟩; simp only at a b c; omega), if_neg (by simp only; omega), if_neg (by simp), if_neg (by simp only; omega), if_neg (by simpa using hk)]

set_option maxHeartbeats 4000000 in
theorem refev (S : Int) (l : List Plain.Ev) (i b off cap : Nat) (k w o : Int) (hi : i < l.length) (hl : l.length ≤ 200) (he : Plain.ev l i = (k, w, o)) (W : World) (hc : CellsE W b off l) (hb : b < W.heap.size) :
    Calls Try.prog 11 #[.int .i64 S, .slice (some ⟨b, off, none⟩) i cap, .agg #[.int .i64 k, .int .i64 w, .int .i64 o]] W fun e w' =>
      e = .returned (.int .i64 (Plain.evE S l i : Nat)) ∧ w' = W.alloc (.cells #[.int .i64 k, .int .i64 w, .int .i64 o] 32) := by
  by_cases hk : k = 1 ∨ k = 2 ∨ k = 3
  · by_cases hw : w < 0 ∨ S ≤ w
    · rw [evE_who he hk hw]
      clear hc he
      rcases hk with rfl | rfl | rfl <;> rcases hw with hw | hw
      all_goals
        go_enter Try.func11, Try.ntmps11
        go_wp2
        all_goals (go_ret; exact ⟨rfl, rfl⟩)
    · have hw2 : 0 ≤ w ∧ w < S := by omega
      clear hw
      by_cases h3 : k = 3
      · subst h3
        by_cases ho : o < 0 ∨ (i : Int) ≤ o
        · rw [evE_far he hw2 ho]
          clear hc he hk
          obtain ⟨hw3, hw4⟩ := hw2
          rcases ho with ho | ho
          all_goals
            go_enter Try.func11, Try.ntmps11
            go_wp2
            all_goals (go_ret; exact ⟨rfl, rfl⟩)
        · obtain ⟨n, rfl⟩ := Int.eq_ofNat_of_zero_le (show 0 ≤ o by omega)
          have hn : n < i := by omega
          have hn' : (n : Int) < (i : Int) := by omega
          have hc1 := (hc n (by omega)).1
          clear hk
          by_cases h2 : (Plain.ev l n).1 = 2
          · rw [evE_yes he hw2 hn h2]
            rw [h2] at hc1
            clear hc he h2 ho
            obtain ⟨hw3, hw4⟩ := hw2
            go_enter Try.func11, Try.ntmps11
            go_wp2
            all_goals (go_ret; exact ⟨rfl, rfl⟩)
          · rw [evE_no he hw2 hn h2]
            generalize (Plain.ev l n).1 = z at hc1 h2
            have b2 : (z != 2) = true := bne_iff_ne.2 h2
            clear hc he ho
            obtain ⟨hw3, hw4⟩ := hw2
            go_enter Try.func11, Try.ntmps11
            go_wp2
            all_goals (go_ret; exact ⟨rfl, rfl⟩)
      · have hk2 : k = 1 ∨ k = 2 := by omega
        rw [evE_act he hk2 hw2]
        clear hc he hk h3
        obtain ⟨hw3, hw4⟩ := hw2
        rcases hk2 with rfl | rfl
        all_goals
          go_enter Try.func11, Try.ntmps11
          go_wp2
          all_goals (go_ret; exact ⟨rfl, rfl⟩)
  · have k1 : ¬ k = 1 := by omega
    have k2 : ¬ k = 2 := by omega
    have k3 : ¬ k = 3 := by omega
    rw [evE_kind he k1 k2 k3]
    have b1 : (k != 1) = true := bne_iff_ne.2 k1
    have b2 : (k != 2) = true := bne_iff_ne.2 k2
    have b3 : (k != 3) = true := bne_iff_ne.2 k3
    clear hc he hk
    go_enter Try.func11, Try.ntmps11
    go_wp2
    go_ret
    exact ⟨rfl, rfl⟩
end Go.Proofs.Ytlckhpfokijknae
