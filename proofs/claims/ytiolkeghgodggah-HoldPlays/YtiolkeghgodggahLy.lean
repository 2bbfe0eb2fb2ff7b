/-
  slices.Delete of one open hold.
-/
import Derived.Test.YtiolkeghgodggahLx
namespace Go.Proofs.Ytiolkeghgodggah.Hd
open Go.RowKit Go.Shelf Go.Sort

set_option maxHeartbeats 2000000 in
set_option maxRecDepth 100000 in
/-- slices.Delete of one. -/
theorem delete_c (g n N c B k J : Nat) (l : List Plain.Pt) (hN : N = n + 1) (hJ : J = k + 1) (hn : l.length = N) (hk : k ≤ n) (w : World) (h : OwnP w B (.slice (some ⟨g, 0, none⟩) N c) l) :
    Calls Try.prog 45 #[.slice (some ⟨g, 0, none⟩) N c, .int .i64 k, .int .i64 J] w fun e w' =>
      e = .returned (.slice (some ⟨g, 0, none⟩) n c) ∧ OwnP w' B (.slice (some ⟨g, 0, none⟩) n c) (l.eraseIdx k) ∧ w.grownBy w' (some g) := by
  have hel : (l.eraseIdx k).length = n := by rw [List.length_eraseIdx, if_pos (by omega), hn, hN]; rfl
  have hD : OwnP w.drew B (.slice (some ⟨g, 0, none⟩) (n + 1) c) l := by rw [← hN]; exact owns_grow h ((Below.refl _ _).drew)
  have h' : w.ownsRow B 73 3 (.slice (some ⟨g, 0, none⟩) N c) N (encP.vals l) := by rw [← hn]; rw [← hn] at h; exact h
  obtain ⟨_, _, _, hnc, hcm, _⟩ := own_cur h'
  have hc63 : c ≤ 9223372036854775807 := by unfold maxLen at hcm; omega
  have key : ∀ U : World, Hid (U.ownsRow B 73 3 (.slice (some ⟨g, 0, none⟩) n c) n (encP.vals (l.eraseIdx k))) → ∃ U', (∀ ty, (Builtin.clear_ #[48] ty #[.slice (some ⟨g, n * 3, none⟩) (N - n) (c - n)]).run Try.prog U = .ok (.tuple #[]) U') ∧ Hid (U'.ownsRow B 73 3 (.slice (some ⟨g, 0, none⟩) n c) n (encP.vals (l.eraseIdx k)) ∧ U.grownBy U' (some g)) := by
    intro U hU
    obtain ⟨cur, hb, hcs, _, _, _⟩ := own_cur hU.out
    obtain ⟨zs, hzl, hcl⟩ := run_clear_rowK (P := Try.prog) U 48 73 g (n * 3) (N - n) (c - n) 3 _ cur 73 Try.underlying48 zeroPart rfl (by intro v hv; simp [Value.cells] at hv; subst hv; rfl) hb (by omega) (by rw [hcs]; omega)
    exact ⟨_, hcl, own_clear hU.out hb (Nat.le_refl _) (by rw [hzl]; omega), grownBy_setRow _ _ _⟩
  have HEL := hid hel
  have KEY := hid key
  have hkz : (k : Int) ≤ (J : Int) := by omega
  have hkz2 : (0 : Int) ≤ (k : Int) := by omega
  have hkN : (J : Int) ≤ (N : Int) := by omega
  have hkc : (k : Int) ≤ (c : Int) := by omega
  have hNc : (N : Int) ≤ (c : Int) := by omega
  have hnN : (n : Int) ≤ (N : Int) := by omega
  have b1 : ((k : Int) == (J : Int)) = false := by rw [beq_eq_false_iff_ne]; omega
  have hnck : ¬ c = n := by omega
  have hNk : ¬ N = k := by omega
  have ER : ∀ A : Addr, (k < n → A = ⟨g, J * 3, none⟩) → Hid (∃ U, (Builtin.append_ #[48, 48] 48 #[.slice (some ⟨g, 0, none⟩) k c, .slice (some A) (N - J) (c - J)]).run Try.prog w.drew = .ok (.slice (some ⟨g, 0, none⟩) n c) U ∧
      U.ownsRow B 73 3 (.slice (some ⟨g, 0, none⟩) n c) n (encP.vals (l.eraseIdx k)) ∧ w.drew.grownBy U (some g)) := fun A hA => by
    have := erase_run (hn.trans hN) hk hD A (c - J) (by rw [← hJ]; exact hA)
    rw [show n - k = N - J by omega] at this
    exact this
  have hJn : ¬ c = J → J < c := by omega
  clear h h' hel hcm key hD hN hn
  by_cases hck : c = J
  · have hck' : (c = J) = True := by simp [hck]
    have hJn0 : c = J := hck
    clear hck
    obtain ⟨U, e1, e2, e3⟩ := (ER ⟨g, 0, none⟩ (fun x => by omega)).out
    obtain ⟨U', e4, e5⟩ := KEY.out U (hid e2)
    have E1 := hid e1
    have E3 := hid e3
    clear e1 e2 e3 KEY ER hJ hJn hJn0
    go_enter Try.func45, Try.ntmps45
    go_wp2
    go_region_law (refine step_appL _ _ 48 rfl 48 rfl (.slice (some ⟨g, 0, none⟩) k c) (.slice (some ⟨g, 0, none⟩) (N - J) (c - J)) (by simp [Act.eval, Act.put]) (by simp [Act.eval, Act.put]) E1.out (by rfl) ?_)
    all_goals
      go_wp2
      go_ret
      exact ⟨rfl, by show World.ownsRow _ _ _ _ _ (l.eraseIdx k).length _; rw [HEL.out]; exact e5.out.1, grownBy_trans (grownBy_trans (grownBy_below ((Below.refl _ _).drew)) E3.out) e5.out.2⟩
  · have hck' : (c = J) = False := by simp [hck]
    have hlt := hJn hck
    obtain ⟨U, e1, e2, e3⟩ := (ER ⟨g, J * 3, none⟩ (fun _ => rfl)).out
    obtain ⟨U', e4, e5⟩ := KEY.out U (hid e2)
    have E1 := hid e1
    have E3 := hid e3
    clear e1 e2 e3 KEY ER hJ hJn
    go_enter Try.func45, Try.ntmps45
    go_wp2
    go_region_law (refine step_appL _ _ 48 rfl 48 rfl (.slice (some ⟨g, 0, none⟩) k c) (.slice (some ⟨g, J * 3, none⟩) (N - J) (c - J)) (by simp [Act.eval, Act.put]) (by simp [Act.eval, Act.put]) E1.out (by rfl) ?_)
    all_goals
      go_wp2
      go_ret
      exact ⟨rfl, by show World.ownsRow _ _ _ _ _ (l.eraseIdx k).length _; rw [HEL.out]; exact e5.out.1, grownBy_trans (grownBy_trans (grownBy_below ((Below.refl _ _).drew)) E3.out) e5.out.2⟩

end Go.Proofs.Ytiolkeghgodggah.Hd
