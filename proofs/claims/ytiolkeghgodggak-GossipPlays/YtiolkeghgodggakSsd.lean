/-
  law.sameCodes, law.sameStores: of the same they tell true; what came in; how long what is told is.
-/
import Derived.Test.YtiolkeghgodggakGz
import Derived.Test.YtiolkeghgodggakSel
import Derived.Test.YtiolkeghgodggakG1
import Derived.Test.YtiolkeghgodggakGc
namespace Go.Proofs.Ytiolkeghgodggak
open Go.RowKit Go.Shelf Go.Sort

set_option maxHeartbeats 1000000 in
set_option maxRecDepth 100000 in
theorem codes_c (p1 p2 : Option Addr) (n c1 c2 : Nat) (l : List Int) (hn : l.length = n) (hl : n ≤ 1000) (w : World) (h1 : Nums w p1 l) (h2 : Nums w p2 l) :
    Calls Try.prog 11 #[.slice p1 n c1, .slice p2 n c2] w fun e w' => e = .returned (.bool true) ∧ ∃ q, w' = w.drewN q := by
  have H1 := hid h1
  have H2 := hid h2
  have HN := hid hn
  have hnn : ((n : Int) != (n : Int)) = false := by simp
  clear h1 h2 hn
  go_enter Try.func11, Try.ntmps11
  go_wp2
  clear hnn
  go_loopg [5] n (fun gg s5 wx => ∃ k : Nat, k ≤ n ∧ n - k ≤ gg ∧ s5 = .int .i64 k ∧ Aside (∃ q, wx = w.drewN q))
  case atStart => exact ⟨0, Nat.zero_le _, by omega, rfl, (show Aside _ from ⟨0, rfl⟩)⟩
  case round =>
    obtain ⟨k, hk, hg, rfl, I⟩ := hrel
    by_cases hlt : k < n
    · have hltz : (k : Int) < (n : Int) := by omega
      have hkl : k < l.length := by rw [HN.out]; exact hlt
      obtain ⟨b1, o1, rfl, _, g1⟩ := H1.out (by omega)
      obtain ⟨b2, o2, rfl, _, g2⟩ := H2.out (by omega)
      obtain ⟨q, hq⟩ := I.out
      have x1 : wr.cell? ⟨b1, o1 + k, none⟩ = some (.int .i64 (l.getD k 0)) := by rw [hq]; simpa using g1 k hkl
      have x2 : wr.cell? ⟨b2, o2 + k, none⟩ = some (.int .i64 (l.getD k 0)) := by rw [hq]; simpa using g2 k hkl
      have HQ := hid hq
      clear g1 g2 hq
      generalize l.getD k 0 = y at x1 x2
      have hy : (y != y) = false := by simp
      go_wp2
      go_quiet (fail)
      go_wp2
      go_roundg (n - (k + 1))
      case measure => omega
      case rel => exact ⟨k + 1, by omega, by omega, by go_num, (show Aside _ from ⟨_, by rw [HQ.out, drewN_add]⟩)⟩
    · have hltz : ¬ (k : Int) < (n : Int) := by omega
      have F := hid I.out
      clear I
      go_wp2
      go_ret
      exact ⟨rfl, F.out⟩

set_option maxHeartbeats 2000000 in
set_option maxRecDepth 100000 in
theorem stores_c (p1 p2 : Option Addr) (n m c1 c2 : Nat) (s : Plain.Stt) (hn : n ≤ 8) (hm : m ≤ 4) (hs : ∀ i j, (s i j).length ≤ 1000) (w : World) (h1 : Stores w p1 n m s) (h2 : Stores w p2 n m s) :
    Calls Try.prog 12 #[.slice p1 n c1, .slice p2 n c2] w fun e w' => e = .returned (.bool true) ∧ ∃ q, w' = w.drewN q := by
  have H1 := hid h1
  have H2 := hid h2
  have HS := hid hs
  have hnn : ((n : Int) != (n : Int)) = false := by simp
  clear h1 h2 hs
  go_enter Try.func12, Try.ntmps12
  go_wp2
  clear hnn
  go_loopg [5, 6] n (fun gg s5 _ wx => ∃ k : Nat, k ≤ n ∧ n - k ≤ gg ∧ s5 = .int .i64 k ∧ Aside (∃ q, wx = w.drewN q))
  case atStart => exact ⟨0, Nat.zero_le _, by omega, rfl, (show Aside _ from ⟨0, rfl⟩)⟩
  case round =>
    obtain ⟨k, hk, hg, rfl, I⟩ := hrel
    by_cases hlt : k < n
    · have hltz : (k : Int) < (n : Int) := by omega
      obtain ⟨b1, o1, rfl, _, g1⟩ := H1.out (by omega)
      obtain ⟨b2, o2, rfl, _, g2⟩ := H2.out (by omega)
      obtain ⟨r1, d1, x1, y1⟩ := g1 k hlt
      obtain ⟨r2, d2, x2, y2⟩ := g2 k hlt
      obtain ⟨q, hq⟩ := I.out
      have z1 : wr.cell? ⟨b1, o1 + k, none⟩ = some (.slice r1 m d1) := by rw [hq]; simpa using x1
      have z2 : wr.cell? ⟨b2, o2 + k, none⟩ = some (.slice r2 m d2) := by rw [hq]; simpa using x2
      have HQ := hid hq
      have Y1 := hid y1
      have Y2 := hid y2
      have X1 := hid x1
      have X2 := hid x2
      have hmm : ((m : Int) != (m : Int)) = false := by simp
      clear g1 g2 hq x1 x2 y1 y2 H1 H2
      go_wp2
      go_quiet (fail)
      obtain ⟨wo, hwo⟩ : ∃ wo, wo = wr.drewN nq := ⟨_, rfl⟩
      rw [← hwo]
      have HO := hid (show ∃ q, wo = w.drewN q from ⟨_, by rw [hwo, HQ.out, drewN_add]⟩)
      clear hwo z1 z2 hmm HQ I
      go_wp2
      go_loopg [6] m (fun gg s6 wx => ∃ j : Nat, j ≤ m ∧ m - j ≤ gg ∧ s6 = .int .i64 j ∧ Aside (∃ q, wx = w.drewN q))
      case atStart => exact ⟨0, Nat.zero_le _, by omega, rfl, (show Aside _ from HO.out)⟩
      case round =>
        obtain ⟨j, hj, hgj, rfl, J⟩ := hrel
        clear HO
        obtain ⟨q, hq⟩ := J.out
        have z1 : wr.cell? ⟨b1, o1 + k, none⟩ = some (.slice r1 m d1) := by rw [hq]; simpa using X1.out
        have z2 : wr.cell? ⟨b2, o2 + k, none⟩ = some (.slice r2 m d2) := by rw [hq]; simpa using X2.out
        have HQ := hid hq
        clear hq J
        by_cases hltj : j < m
        · have hltjz : (j : Int) < (m : Int) := by omega
          obtain ⟨e1, f1, rfl, _, u1⟩ := Y1.out (by omega)
          obtain ⟨e2, f2, rfl, _, u2⟩ := Y2.out (by omega)
          obtain ⟨v1, a1, sg1, ly1⟩ := u1 j hltj
          obtain ⟨v2, a2, sg2, ly2⟩ := u2 j hltj
          have a1' : wr.cell? ⟨e1, f1 + j, none⟩ = some v1 := by rw [HQ.out]; simpa using a1
          have a2' : wr.cell? ⟨e2, f2 + j, none⟩ = some v2 := by rw [HQ.out]; simpa using a2
          have K := fun t => law.same_any v1 v2 (s k j) (HS.out k j) (wr.drewN t) (by rw [HQ.out, drewN_add]; exact sg1.below (below_drewN (Below.refl _ _) _) ly1) (by rw [HQ.out, drewN_add]; exact sg2.below (below_drewN (Below.refl _ _) _) ly2)
          obtain ⟨pa, ca, rfl, _⟩ := sg1.form
          obtain ⟨pb, cb, rfl, _⟩ := sg2.form
          clear u1 u2 a1 a2 sg1 sg2 ly1 ly2
          generalize (s k j).length = ln at *
          go_wp2
          go_quiet ((go_at_call 29; exact Calls.quiet_of (K _)))
          clear K
          go_wp2
          go_roundg (m - (j + 1))
          case measure => omega
          case rel => exact ⟨j + 1, by omega, by omega, by go_num, (show Aside _ from ⟨_, by rw [HQ.out, drewN_add]⟩)⟩
        · have hltjz : ¬ (j : Int) < (m : Int) := by omega
          go_wp2
          go_roundg (n - (k + 1))
          case measure => omega
          case rel => exact ⟨k + 1, by omega, by omega, by go_num, (show Aside _ from ⟨_, HQ.out⟩)⟩
    · have hltz : ¬ (k : Int) < (n : Int) := by omega
      have F := hid I.out
      clear I
      go_wp2
      go_ret
      exact ⟨rfl, F.out⟩

theorem ints_nums {w : World} {v : Value} {l : List Int} (h : Seg w v l) (hv : Lies w.heap.size v) : ∃ p c, v = .slice p l.length c ∧ Nums w p l := by
  rcases h with ⟨rfl, p, c, rfl⟩ | ⟨b, off, c, rfl, g⟩
  · exact ⟨p, c, rfl, Nums.nil _ _⟩
  · exact ⟨_, c, rfl, fun h => ⟨b, off, rfl, hv _ _ _ rfl h, g⟩⟩
theorem ints_bounds {l : List Int} (h : ∀ n ∈ l, (Lit.int .i64 n).wf = true) : ∀ x, x ∈ l → -9223372036854775808 ≤ x ∧ x ≤ 9223372036854775807 := fun x hx => Go.bounds_i64 (h x hx)
theorem Plain.goE_zero {bn : Int} {L : List Int} {l : List Plain.Tu} (h : Plain.goE bn L l = 0) : (1 ≤ bn ∧ bn ≤ 8) ∧ L.length ≤ 4 ∧ l.length ≤ 300 := by
  unfold Plain.goE at h
  by_cases c1 : bn < 1 ∨ 8 < bn
  · rw [if_pos c1] at h; omega
  rw [if_neg c1] at h
  by_cases c2 : L.any (fun s => decide (s < 0 ∨ (2 : Int) ^ bn.toNat ≤ s)) = true
  · rw [if_pos c2] at h; omega
  rw [if_neg c2] at h
  by_cases c3 : 4 < L.length ∨ 300 < l.length
  · rw [if_pos c3] at h; omega
  omega
theorem Plain.codesV_len (bn : Int) (L : List Int) (l : List Plain.Tu) : (Plain.codesV bn L l).length ≤ 1000 := by
  unfold Plain.codesV
  by_cases h : Plain.goE bn L l ≠ 0
  · rw [if_pos h]; simp
  · rw [if_neg h, Plain.goF_len]
    have := Plain.goE_zero (Classical.not_not.1 h)
    omega
theorem stores_any (bn : Int) (L : List Int) (l : List Plain.Tu) (q1 q2 : Option Addr) (d1 d2 : Nat) (w : World) (h1 : Stores w q1 (Plain.cntV bn L l) L.length (Plain.stF bn.toNat L Plain.Stt.nil l)) (h2 : Stores w q2 (Plain.cntV bn L l) L.length (Plain.stF bn.toNat L Plain.Stt.nil l)) :
    Calls Try.prog 12 #[.slice q1 (Plain.cntV bn L l) d1, .slice q2 (Plain.cntV bn L l) d2] w fun e w' => e = .returned (.bool true) ∧ ∃ q, w' = w.drewN q := by
  by_cases h : Plain.goE bn L l ≠ 0
  · have e : Plain.cntV bn L l = 0 := by unfold Plain.cntV; rw [if_pos h]
    rw [e]
    exact stores_c q1 q2 0 0 d1 d2 Plain.Stt.nil (by omega) (by omega) (fun i j => by simp [Plain.Stt.nil]) w (Stores.nil _ _ _ _) (Stores.nil _ _ _ _)
  · have hz := Plain.goE_zero (Classical.not_not.1 h)
    have e : Plain.cntV bn L l = bn.toNat := by unfold Plain.cntV; rw [if_neg h]
    rw [e] at h1 h2 ⊢
    have G := (Plain.Gok.nil bn.toNat L).run (by omega) l ⟨by omega, by omega⟩
    exact stores_c q1 q2 bn.toNat L.length d1 d2 _ (by omega) hz.2.1 (fun i j => by have := G.len i j; omega) w h1 h2
theorem codes_any (bn : Int) (L : List Int) (l : List Plain.Tu) (p1 p2 : Option Addr) (c1 c2 : Nat) (w : World) (h1 : Nums w p1 (Plain.cz (Plain.codesV bn L l))) (h2 : Nums w p2 (Plain.cz (Plain.codesV bn L l))) :
    Calls Try.prog 11 #[.slice p1 (Plain.codesV bn L l).length c1, .slice p2 (Plain.codesV bn L l).length c2] w fun e w' => e = .returned (.bool true) ∧ ∃ q, w' = w.drewN q :=
  codes_c p1 p2 _ c1 c2 _ (Plain.cz_len _) (Plain.codesV_len bn L l) w h1 h2
end Go.Proofs.Ytiolkeghgodggak
