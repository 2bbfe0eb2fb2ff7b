/-
  The contract of lab.Members.
-/
import Derived.Test.YtnmggnlndndbgabLab
namespace Go.Proofs.Ytnmggnlndndbgab
open Go.RowKit

theorem Try.info3 : (Try.prog.info? 3).map (fun i => (i.zero, i.size, i.bytes)) = some (some (.int .i64 0), 1, 8) := by kernel_rfl

namespace Plain
/-- Those of the first n branches that are in the label s, ascending. -/
def mem (s n : Nat) : List Nat := (List.range n).filter (fun k => s / 2 ^ k % 2 == 1)

theorem mem_hit (s n : Nat) (h : (s / 2 ^ n % 2 == 1) = true) : mem s (n + 1) = mem s n ++ [n] := by
  simp [mem, List.range_succ, List.filter_append, h]
theorem mem_miss (s n : Nat) (h : (s / 2 ^ n % 2 == 1) = false) : mem s (n + 1) = mem s n := by
  simp [mem, List.range_succ, List.filter_append, h]
theorem mem_le (s n : Nat) : (mem s n).length ≤ n := by
  have := List.length_filter_le (fun k => s / 2 ^ k % 2 == 1) (List.range n)
  simpa [mem] using this

theorem pow_lt (n : Nat) (h : n < 8) : 2 ^ n ≤ 128 := by
  have : 2 ^ n ≤ 2 ^ 7 := Nat.pow_le_pow_right (by decide) (by omega)
  omega

theorem bit_ne (s n : Nat) (hs : s < 256) (hn : n < 8) : (bits .and .i64 (s : Int) (2 ^ n) != 0) = (s / 2 ^ n % 2 == 1) := by
  have hp := pow_lt n hn
  have e : ((2 : Int) ^ n) = ((2 ^ n : Nat) : Int) := by simp
  rw [e, and_nat s (2 ^ n) (by omega) (by omega), nat_bit]
  have hpos : 0 < 2 ^ n := Nat.two_pow_pos n
  have h2 : s / 2 ^ n % 2 = 0 ∨ s / 2 ^ n % 2 = 1 := by omega
  rcases h2 with h2 | h2
  · simp [h2]
  · rw [h2, Bool.eq_iff_iff, bne_iff_ne]
    constructor
    · intro _; rfl
    · intro _ h
      omega

theorem wrap_pow (n : Nat) (hn : n < 8) : wrap64 (2 ^ n) = 2 ^ n := by
  have hp := pow_lt n hn
  have e : ((2 : Int) ^ n) = ((2 ^ n : Nat) : Int) := by simp
  rw [e]
  generalize (2 ^ n : Nat) = x at hp
  unfold wrap64
  omega
end Plain

theorem rel_keep {B k s : Nat} {w wr w1 : World} {u v' : Value} {o : Obj} (hit : (s / 2 ^ k % 2 == 1) = true) (hB : B ≤ wr.heap.size)
    (hown : wr.ownsRow B 3 1 u (Plain.mem s k).length ((Plain.mem s k).map (fun j : Nat => Value.int .i64 j))) (hnx : Below B w wr)
    (hown' : w1.ownsRow B 3 1 v' ((Plain.mem s k).length + 1) ((Plain.mem s k).map (fun j : Nat => Value.int .i64 j) ++ [.int .i64 (k : Nat)])) (hgrow : (wr.alloc o).grownBy w1 u.ownBlock) :
    w1.ownsRow B 3 1 v' (Plain.mem s (k + 1)).length ((Plain.mem s (k + 1)).map (fun j : Nat => Value.int .i64 j)) ∧ Below B w w1 := by
  have e1 := Plain.mem_hit s k hit
  refine ⟨by rw [e1]; simpa using hown', (hnx.alloc (by omega) o).grown hgrow (by simp; omega) (fun j hj => by have := (hown.lt j hj).1; omega)⟩

set_option maxHeartbeats 400000 in
set_option maxRecDepth 100000 in
theorem members_yes (s : Nat) (hs : s < 256) (w : World) :
    Calls Try.prog 12 #[.int .i64 s] w fun e w' => ∃ v, e = .returned (.tuple #[v, .int .i64 0]) ∧
      w'.ownsRow w.heap.size 3 1 v (Plain.mem s 8).length ((Plain.mem s 8).map (fun j : Nat => Value.int .i64 j)) ∧ Below w.heap.size w w' := by
  obtain ⟨i0, hi, hz0, hz1, hz2⟩ := info_parts Try.info3
  have e1 := ma s hs
  go_enter Try.func12, Try.ntmps12
  go_wp2
  go_loopw [4, 9] (fun v i wr => ∃ k : Nat, k ≤ 8 ∧ i = .int .i64 k ∧ wr.ownsRow w.heap.size 3 1 v (Plain.mem s k).length ((Plain.mem s k).map (fun j : Nat => Value.int .i64 j)) ∧ Below w.heap.size w wr)
    (fun _ i _ => 8 - (intOf i).toNat)
  case atStart => exact ⟨0, Nat.zero_le _, rfl, World.ownsRow_nil _ _ _ _, Below.refl _ _⟩
  case round =>
    obtain ⟨k, hk, rfl, hown, hnx⟩ := hrel
    by_cases hlt : k < 8
    · cases eb : (s / 2 ^ k % 2 == 1)
      · have EB : Hid _ := eb
        have e2 := Plain.bit_ne s k hs hlt
        rw [eb, ← Plain.wrap_pow k hlt] at e2
        clear eb
        go_wp2
        go_roundw
        case rel => exact ⟨k + 1, by omega, by go_num, by rw [Plain.mem_miss s k EB.out]; exact hown, hnx⟩
        case measure => simp [intOf]; omega
      · have EB : Hid _ := eb
        have e2 := Plain.bit_ne s k hs hlt
        rw [eb, ← Plain.wrap_pow k hlt] at e2
        clear eb
        go_wp2_with (first
          | (at_builtin; refine wpList_append_own _ rfl _ _ 29 rfl w.heap.size 3 i0 (.int .i64 0) 1 8 Try.underlying29 hi hz0 hz1 hz2 rfl (by decide) _ _ _ rfl (hown.alloc _) ⟨wr.heap.size, 0, none⟩ 1 1 [.int .i64 k] rfl rfl ?c1 ?c2 ?c3 ?c4 ?c5 ?_)
          | go_in)
        case c1 =>
          intro j u hj
          match j, hj with
          | 0, hj => simp at hj; subst hj; simp [Addr.add]
        case c2 => intro u hu; simp at hu; subst hu; rfl
        case c3 => have := Plain.mem_le s k; unfold maxLen; omega
        case c4 => have := Plain.mem_le s k; omega
        case c5 => have := hnx.size; simp; omega
        intro v' w1 hown' hgrow _
        have R := rel_keep EB.out hnx.size hown hnx hown' hgrow
        clear hown' hgrow hown hnx
        go_wp2
        go_roundw
        case rel => first | exact ⟨k + 1, by omega, by go_num, R.1, R.2⟩ | ((repeat apply Exists.intro); exact ⟨⟨k + 1, by omega, by go_num, R.1, R.2⟩, rfl⟩)
        case measure => simp [intOf]; omega
    · go_wp2
      go_ret2
      have h8 : k = 8 := by omega
      subst h8
      exact ⟨_, rfl, hown, hnx⟩

end Go.Proofs.Ytnmggnlndndbgab
