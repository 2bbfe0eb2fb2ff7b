/-
  law.sameCodes, law.sameStores: of the same they tell true.
-/
import Derived.Test.YtdcgkeanghhopakGz
import Derived.Test.YtdcgkeanghhopakSel
namespace Go.Proofs.Ytdcgkeanghhopak
open Go.RowKit Go.Shelf Go.Sort

set_option maxHeartbeats 1000000 in
set_option maxRecDepth 100000 in
theorem codes_c (p1 p2 : Option Addr) (n c1 c2 : Nat) (l : List Int) (hn : l.length = n) (hl : n ≤ 1000) (w : World) (h1 : Nums w p1 l) (h2 : Nums w p2 l) :
    Calls Try.prog 11 #[.slice p1 n c1, .slice p2 n c2] w fun e w' => e = .returned (.bool true) ∧ ∃ q, w' = w.drewN q := by
  have H1 := hid h1
  have H2 := hid h2
  have HN := hid hn
  have hnn : ((n : Int) != (n : Int)) = false := by simp
  clear h1 h2 hn
  go_enter Try.func11, Try.ntmps11
  go_wp2
  clear hnn
  go_loopg [5] n (fun gg s5 wx => ∃ k : Nat, k ≤ n ∧ n - k ≤ gg ∧ s5 = .int .i64 k ∧ Aside (∃ q, wx = w.drewN q))
  case atStart => exact ⟨0, Nat.zero_le _, by omega, rfl, (show Aside _ from ⟨0, rfl⟩)⟩
  case round =>
    obtain ⟨k, hk, hg, rfl, I⟩ := hrel
    by_cases hlt : k < n
    · have hltz : (k : Int) < (n : Int) := by omega
      have hkl : k < l.length := by rw [HN.out]; exact hlt
      obtain ⟨b1, o1, rfl, _, g1⟩ := H1.out (by omega)
      obtain ⟨b2, o2, rfl, _, g2⟩ := H2.out (by omega)
      obtain ⟨q, hq⟩ := I.out
      have x1 : wr.cell? ⟨b1, o1 + k, none⟩ = some (.int .i64 (l.getD k 0)) := by rw [hq]; simpa using g1 k hkl
      have x2 : wr.cell? ⟨b2, o2 + k, none⟩ = some (.int .i64 (l.getD k 0)) := by rw [hq]; simpa using g2 k hkl
      have HQ := hid hq
      clear g1 g2 hq
      generalize l.getD k 0 = y at x1 x2
      have hy : (y != y) = false := by simp
      go_wp2
      go_quiet (fail)
      go_wp2
      go_roundg (n - (k + 1))
      case measure => omega
      case rel => exact ⟨k + 1, by omega, by omega, by go_num, (show Aside _ from ⟨_, by rw [HQ.out, drewN_add]⟩)⟩
    · have hltz : ¬ (k : Int) < (n : Int) := by omega
      have F := hid I.out
      clear I
      go_wp2
      go_ret
      exact ⟨rfl, F.out⟩

set_option maxHeartbeats 2000000 in
set_option maxRecDepth 100000 in
theorem stores_c (p1 p2 : Option Addr) (n m c1 c2 : Nat) (s : Plain.Stt) (hn : n ≤ 8) (hm : m ≤ 4) (hs : ∀ i j, (s i j).length ≤ 1000) (w : World) (h1 : Stores w p1 n m s) (h2 : Stores w p2 n m s) :
    Calls Try.prog 12 #[.slice p1 n c1, .slice p2 n c2] w fun e w' => e = .returned (.bool true) ∧ ∃ q, w' = w.drewN q := by
  have H1 := hid h1
  have H2 := hid h2
  have HS := hid hs
  have hnn : ((n : Int) != (n : Int)) = false := by simp
  clear h1 h2 hs
  go_enter Try.func12, Try.ntmps12
  go_wp2
  clear hnn
  go_loopg [5, 6] n (fun gg s5 _ wx => ∃ k : Nat, k ≤ n ∧ n - k ≤ gg ∧ s5 = .int .i64 k ∧ Aside (∃ q, wx = w.drewN q))
  case atStart => exact ⟨0, Nat.zero_le _, by omega, rfl, (show Aside _ from ⟨0, rfl⟩)⟩
  case round =>
    obtain ⟨k, hk, hg, rfl, I⟩ := hrel
    by_cases hlt : k < n
    · have hltz : (k : Int) < (n : Int) := by omega
      obtain ⟨b1, o1, rfl, _, g1⟩ := H1.out (by omega)
      obtain ⟨b2, o2, rfl, _, g2⟩ := H2.out (by omega)
      obtain ⟨r1, d1, x1, y1⟩ := g1 k hlt
      obtain ⟨r2, d2, x2, y2⟩ := g2 k hlt
      obtain ⟨q, hq⟩ := I.out
      have z1 : wr.cell? ⟨b1, o1 + k, none⟩ = some (.slice r1 m d1) := by rw [hq]; simpa using x1
      have z2 : wr.cell? ⟨b2, o2 + k, none⟩ = some (.slice r2 m d2) := by rw [hq]; simpa using x2
      have HQ := hid hq
      have Y1 := hid y1
      have Y2 := hid y2
      have X1 := hid x1
      have X2 := hid x2
      have hmm : ((m : Int) != (m : Int)) = false := by simp
      clear g1 g2 hq x1 x2 y1 y2 H1 H2
      go_wp2
      go_quiet (fail)
      obtain ⟨wo, hwo⟩ : ∃ wo, wo = wr.drewN nq := ⟨_, rfl⟩
      rw [← hwo]
      have HO := hid (show ∃ q, wo = w.drewN q from ⟨_, by rw [hwo, HQ.out, drewN_add]⟩)
      clear hwo z1 z2 hmm HQ I
      go_wp2
      go_loopg [6] m (fun gg s6 wx => ∃ j : Nat, j ≤ m ∧ m - j ≤ gg ∧ s6 = .int .i64 j ∧ Aside (∃ q, wx = w.drewN q))
      case atStart => exact ⟨0, Nat.zero_le _, by omega, rfl, (show Aside _ from HO.out)⟩
      case round =>
        obtain ⟨j, hj, hgj, rfl, J⟩ := hrel
        clear HO
        obtain ⟨q, hq⟩ := J.out
        have z1 : wr.cell? ⟨b1, o1 + k, none⟩ = some (.slice r1 m d1) := by rw [hq]; simpa using X1.out
        have z2 : wr.cell? ⟨b2, o2 + k, none⟩ = some (.slice r2 m d2) := by rw [hq]; simpa using X2.out
        have HQ := hid hq
        clear hq J
        by_cases hltj : j < m
        · have hltjz : (j : Int) < (m : Int) := by omega
          obtain ⟨e1, f1, rfl, _, u1⟩ := Y1.out (by omega)
          obtain ⟨e2, f2, rfl, _, u2⟩ := Y2.out (by omega)
          obtain ⟨v1, a1, sg1, ly1⟩ := u1 j hltj
          obtain ⟨v2, a2, sg2, ly2⟩ := u2 j hltj
          have a1' : wr.cell? ⟨e1, f1 + j, none⟩ = some v1 := by rw [HQ.out]; simpa using a1
          have a2' : wr.cell? ⟨e2, f2 + j, none⟩ = some v2 := by rw [HQ.out]; simpa using a2
          have K := fun t => law.same_any v1 v2 (s k j) (HS.out k j) (wr.drewN t) (by rw [HQ.out, drewN_add]; exact sg1.below (below_drewN (Below.refl _ _) _) ly1) (by rw [HQ.out, drewN_add]; exact sg2.below (below_drewN (Below.refl _ _) _) ly2)
          obtain ⟨pa, ca, rfl, _⟩ := sg1.form
          obtain ⟨pb, cb, rfl, _⟩ := sg2.form
          clear u1 u2 a1 a2 sg1 sg2 ly1 ly2
          generalize (s k j).length = ln at *
          go_wp2
          go_quiet ((go_at_call 27; exact Calls.quiet_of (K _)))
          clear K
          go_wp2
          go_roundg (m - (j + 1))
          case measure => omega
          case rel => exact ⟨j + 1, by omega, by omega, by go_num, (show Aside _ from ⟨_, by rw [HQ.out, drewN_add]⟩)⟩
        · have hltjz : ¬ (j : Int) < (m : Int) := by omega
          go_wp2
          go_roundg (n - (k + 1))
          case measure => omega
          case rel => exact ⟨k + 1, by omega, by omega, by go_num, (show Aside _ from ⟨_, HQ.out⟩)⟩
    · have hltz : ¬ (k : Int) < (n : Int) := by omega
      have F := hid I.out
      clear I
      go_wp2
      go_ret
      exact ⟨rfl, F.out⟩
end Go.Proofs.Ytdcgkeanghhopak
