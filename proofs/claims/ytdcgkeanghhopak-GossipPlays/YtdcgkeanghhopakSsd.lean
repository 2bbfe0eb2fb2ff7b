/-
  What the law on gossip.Play leans on: what came in, how long what is told is.
-/
import Derived.Test.YtdcgkeanghhopakSsc
import Derived.Test.YtdcgkeanghhopakG1
import Derived.Test.YtdcgkeanghhopakGc
namespace Go.Proofs.Ytdcgkeanghhopak
open Go.RowKit Go.Shelf Go.Sort

theorem ints_nums {w : World} {v : Value} {l : List Int} (h : Seg w v l) (hv : Lies w.heap.size v) : ∃ p c, v = .slice p l.length c ∧ Nums w p l := by
  rcases h with ⟨rfl, p, c, rfl⟩ | ⟨b, off, c, rfl, g⟩
  · exact ⟨p, c, rfl, Nums.nil _ _⟩
  · exact ⟨_, c, rfl, fun h => ⟨b, off, rfl, hv _ _ _ rfl h, g⟩⟩
theorem ints_bounds {l : List Int} (h : ∀ n ∈ l, (Lit.int .i64 n).wf = true) : ∀ x, x ∈ l → -9223372036854775808 ≤ x ∧ x ≤ 9223372036854775807 := fun x hx => Go.bounds_i64 (h x hx)
theorem Plain.goE_zero {bn : Int} {L : List Int} {l : List Plain.Tu} (h : Plain.goE bn L l = 0) : (1 ≤ bn ∧ bn ≤ 8) ∧ L.length ≤ 4 ∧ l.length ≤ 300 := by
  unfold Plain.goE at h
  by_cases c1 : bn < 1 ∨ 8 < bn
  · rw [if_pos c1] at h; omega
  rw [if_neg c1] at h
  by_cases c2 : L.any (fun s => decide (s < 0 ∨ (2 : Int) ^ bn.toNat ≤ s)) = true
  · rw [if_pos c2] at h; omega
  rw [if_neg c2] at h
  by_cases c3 : 4 < L.length ∨ 300 < l.length
  · rw [if_pos c3] at h; omega
  omega
theorem Plain.codesV_len (bn : Int) (L : List Int) (l : List Plain.Tu) : (Plain.codesV bn L l).length ≤ 1000 := by
  unfold Plain.codesV
  by_cases h : Plain.goE bn L l ≠ 0
  · rw [if_pos h]; simp
  · rw [if_neg h, Plain.goF_len]
    have := Plain.goE_zero (Classical.not_not.1 h)
    omega
theorem stores_any (bn : Int) (L : List Int) (l : List Plain.Tu) (q1 q2 : Option Addr) (d1 d2 : Nat) (w : World) (h1 : Stores w q1 (Plain.cntV bn L l) L.length (Plain.stF bn.toNat L Plain.Stt.nil l)) (h2 : Stores w q2 (Plain.cntV bn L l) L.length (Plain.stF bn.toNat L Plain.Stt.nil l)) :
    Calls Try.prog 12 #[.slice q1 (Plain.cntV bn L l) d1, .slice q2 (Plain.cntV bn L l) d2] w fun e w' => e = .returned (.bool true) ∧ ∃ q, w' = w.drewN q := by
  by_cases h : Plain.goE bn L l ≠ 0
  · have e : Plain.cntV bn L l = 0 := by unfold Plain.cntV; rw [if_pos h]
    rw [e]
    exact stores_c q1 q2 0 0 d1 d2 Plain.Stt.nil (by omega) (by omega) (fun i j => by simp [Plain.Stt.nil]) w (Stores.nil _ _ _ _) (Stores.nil _ _ _ _)
  · have hz := Plain.goE_zero (Classical.not_not.1 h)
    have e : Plain.cntV bn L l = bn.toNat := by unfold Plain.cntV; rw [if_neg h]
    rw [e] at h1 h2 ⊢
    have G := (Plain.Gok.nil bn.toNat L).run (by omega) l ⟨by omega, by omega⟩
    exact stores_c q1 q2 bn.toNat L.length d1 d2 _ (by omega) hz.2.1 (fun i j => by have := G.len i j; omega) w h1 h2
theorem codes_any (bn : Int) (L : List Int) (l : List Plain.Tu) (p1 p2 : Option Addr) (c1 c2 : Nat) (w : World) (h1 : Nums w p1 (Plain.cz (Plain.codesV bn L l))) (h2 : Nums w p2 (Plain.cz (Plain.codesV bn L l))) :
    Calls Try.prog 11 #[.slice p1 (Plain.codesV bn L l).length c1, .slice p2 (Plain.codesV bn L l).length c2] w fun e w' => e = .returned (.bool true) ∧ ∃ q, w' = w.drewN q :=
  codes_c p1 p2 _ c1 c2 _ (Plain.cz_len _) (Plain.codesV_len bn L l) w h1 h2
end Go.Proofs.Ytdcgkeanghhopak
