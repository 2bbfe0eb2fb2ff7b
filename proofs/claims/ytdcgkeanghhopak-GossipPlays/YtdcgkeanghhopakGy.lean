/-
  The circle's tell and do.
-/
import Derived.Test.YtdcgkeanghhopakGv
import Derived.Test.YtdcgkeanghhopakXr
namespace Go.Proofs.Ytdcgkeanghhopak
open Go.RowKit Go.Shelf Go.Sort
namespace Plain
/-- What is told of the first k labels. -/
def telK (L : List Int) (s : Stt) (a b k : Nat) : Stt := fun i j => if (i = b ∧ j < k) ∧ (reads (labAt L j) a = true ∧ reads (labAt L j) b = true) then mergeL (s i j) (s a j) else s i j
theorem telK_zero (L : List Int) (s : Stt) (a b : Nat) : telK L s a b 0 = s := by
  funext i j
  unfold telK
  rw [if_neg (by omega)]
theorem telK_all (L : List Int) (s : Stt) (a b : Nat) : telK L s a b L.length = tellS L s a b := rfl
theorem telK_at (L : List Int) (s : Stt) (a b k j : Nat) (h : k ≤ j) (i : Nat) : telK L s a b k i j = s i j := by
  unfold telK
  rw [if_neg (by omega)]
theorem telK_no {L : List Int} (s : Stt) {a b k : Nat} (h : ¬ (reads (labAt L k) a = true ∧ reads (labAt L k) b = true)) : telK L s a b (k + 1) = telK L s a b k := by
  funext i j
  unfold telK
  by_cases hj : j = k
  · subst hj
    rw [if_neg (fun x => h x.2), if_neg (fun x => h x.2)]
  · by_cases hc : (i = b ∧ j < k) ∧ (reads (labAt L j) a = true ∧ reads (labAt L j) b = true)
    · rw [if_pos hc, if_pos ⟨⟨hc.1.1, by omega⟩, hc.2⟩]
    · rw [if_neg hc, if_neg (fun x => hc ⟨⟨x.1.1, by omega⟩, x.2⟩)]
theorem telK_yes {L : List Int} (s : Stt) {a b k : Nat} (h : reads (labAt L k) a = true ∧ reads (labAt L k) b = true) : telK L s a b (k + 1) = fun i j => if i = b ∧ j = k then mergeL (s b k) (s a k) else telK L s a b k i j := by
  funext i j
  by_cases hj : i = b ∧ j = k
  · rw [if_pos hj]
    obtain ⟨rfl, rfl⟩ := hj
    unfold telK
    rw [if_pos ⟨⟨rfl, by omega⟩, h⟩]
  · rw [if_neg hj]
    unfold telK
    by_cases hc : (i = b ∧ j < k) ∧ (reads (labAt L j) a = true ∧ reads (labAt L j) b = true)
    · rw [if_pos hc, if_pos ⟨⟨hc.1.1, by omega⟩, hc.2⟩]
    · rw [if_neg hc, if_neg (fun x => hc ⟨⟨x.1.1, by have := x.1.2; have h2 : j ≠ k := fun e => hj ⟨x.1.1, e⟩; omega⟩, x.2⟩)]
theorem tell_may {n : Nat} {L : List Int} {T : Int} {s : Stt} (h : Gok n L T s) (a b k : Nat) : mayL (s b k) = true ∧ mayL (s a k) = true ∧ (mergeL (s b k) (s a k)).length ≤ 8 := by
  refine ⟨h.mayL _ _, h.mayL _ _, ?_⟩
  have := srt_len (merge_srt (h.srt b k) (s a k)) 0 8 (fun e he => by
    rcases merge_mem he with h1 | h1
    · exact (h.may b k e h1).2.1
    · exact (h.may a k e h1).2.1)
  simpa using this
end Plain

set_option maxHeartbeats 2000000 in
theorem tell_no (B C H : Nat) (R : Nat → Nat) (w0 : World) (lp : Option Addr) (lc n m : Nat) (s : Plain.Stt) (a b : Int) (h : ¬ ((0 ≤ a ∧ a < n) ∧ (0 ≤ b ∧ b < n))) (w : World) (I : CcI B C H R w0 w lp lc n m s) :
    Calls Try.prog 35 #[.pointer (some ⟨C, 0, none⟩), .int .i64 a, .int .i64 b] w fun e w' => e = .returned (.int .i64 (2 : Nat)) ∧ w' = w := by
  by_cases ha : 0 ≤ a ∧ a < n
  · have K1 := branch_t ha w I.cell1
    have K2 := branch_f (fun hb => h ⟨ha, hb⟩) w I.cell1
    clear h ha I
    go_enter Try.func35, Try.ntmps35
    go_wp2_with fail
    refine K1.mono ?_
    rintro e wx ⟨rfl, hx⟩
    have hy := hx.symm
    clear hx K1
    subst hy
    go_wp2_with fail
    refine K2.mono ?_
    rintro e wx ⟨rfl, hx⟩
    have hy := hx.symm
    clear hx K2
    subst hy
    go_wp2
    go_ret
    exact ⟨rfl, rfl⟩
  · have K1 := branch_f ha w I.cell1
    clear h ha I
    go_enter Try.func35, Try.ntmps35
    go_wp2_with fail
    refine K1.mono ?_
    rintro e wx ⟨rfl, hx⟩
    have hy := hx.symm
    clear hx K1
    subst hy
    go_wp2
    go_ret
    exact ⟨rfl, rfl⟩

/-- The cells that a Tell reads of a label. -/
structure TelS (C H Ra Rb a b k n m : Nat) (pb : Option Addr) (cb lnb : Nat) (pa : Option Addr) (ca lna : Nat) (w : World) : Prop where
  q1 : w.cell? ⟨C, 1, none⟩ = some (.slice (some ⟨H, 0, none⟩) n n)
  q2 : w.cell? ⟨H, a, none⟩ = some (.slice (some ⟨Ra, 0, none⟩) m m)
  q3 : w.cell? ⟨H, b, none⟩ = some (.slice (some ⟨Rb, 0, none⟩) m m)
  q4 : w.cell? ⟨Ra, k, none⟩ = some (.slice pa lna ca)
  q5 : w.cell? ⟨Rb, k, none⟩ = some (.slice pb lnb cb)

set_option maxHeartbeats 8000000 in
set_option maxRecDepth 100000 in
theorem tell_in (B C H : Nat) (R : Nat → Nat) (w0 : World) (lp : Option Addr) (lc n : Nat) (L : List Int) (s : Plain.Stt) (a b : Nat) (T : Int) (ha : a < n) (hb : b < n) (hn : n ≤ 8) (hL4 : L.length ≤ 4) (hL : ∀ x, x ∈ L → 0 ≤ x ∧ x < 256) (hG : Plain.Gok n L T s)
    (w : World) (hB : w0.heap.size = B) (I : CcI B C H R w0 w lp lc n L.length s) (NL : Nums w0 lp L) :
    Calls Try.prog 35 #[.pointer (some ⟨C, 0, none⟩), .int .i64 (a : Int), .int .i64 (b : Int)] w fun e w' => e = .returned (.int .i64 (0 : Nat)) ∧ CcI B C H R w0 w' lp lc n L.length (Plain.tellS L s a b) ∧ Un (isR R n) w w' := by
  have K1 := branch_t (x := (a : Int)) (n := n) (by omega) w I.cell1
  have K2 := branch_t (x := (b : Int)) (n := n) (by omega) w I.cell1
  have x0 := I.cell0
  have haz : (a : Int) < (n : Int) := by omega
  have hbz : (b : Int) < (n : Int) := by omega
  have HI := hid I
  have HL := hid hL
  have HG := hid hG
  have HNL := hid NL
  have HBB := hid hB
  have hpa0 : (0 : Int) ≤ 2 ^ a := Int.pow_nonneg (by decide)
  have hpb0 : (0 : Int) ≤ 2 ^ b := Int.pow_nonneg (by decide)
  have hpaz : ((2 ^ a : Nat) : Int) = (2 : Int) ^ a := by simp
  have hpbz : ((2 ^ b : Nat) : Int) = (2 : Int) ^ b := by simp
  have hpa : (2 : Int) ^ a ≤ 128 := by
    have h2 : 2 ^ a ≤ 2 ^ 7 := Nat.pow_le_pow_right (by decide) (by omega)
    omega
  have hpb : (2 : Int) ^ b ≤ 128 := by
    have h2 : 2 ^ b ≤ 2 ^ 7 := Nat.pow_le_pow_right (by decide) (by omega)
    omega
  have hor := LabP.or_nat (2 ^ a) (2 ^ b) (by omega) (by omega)
  rw [hpaz, hpbz] at hor
  have KM := fun (s : Nat) (hs : s < 256) W => mayRead_yes (2 ^ a ||| 2 ^ b) s (LabP.or_lt (by omega) (by omega)) hs W
  generalize hoz : (((2 ^ a ||| 2 ^ b : Nat)) : Int) = oz at hor KM
  have KMH := hid (show ∀ (s : Nat), s < 256 → ∀ W, Calls Try.prog 22 #[.int .i64 oz, .int .i64 (s : Int)] W fun e w' => e = .returned (.bool (Plain.reads (s : Int) a && Plain.reads (s : Int) b)) ∧ w' = W from fun s hs W => by rw [← LabP.inB_two]; exact KM s hs W)
  have HOR := hid hor
  have HPA := hid (And.intro hpa0 hpa)
  have HPB := hid (And.intro hpb0 hpb)
  obtain ⟨m, hm⟩ : ∃ m, m = L.length := ⟨_, rfl⟩
  rw [← hm] at x0 hL4 ⊢
  have HM := hid hm
  clear I hL hG NL hB hpaz hpbz hpa0 hpb0 hpa hpb hor KM hoz hm
  go_enter Try.func35, Try.ntmps35
  go_wp2_with fail
  refine K1.mono ?_
  rintro e wx ⟨rfl, hx⟩
  have hy := hx.symm
  clear hx K1
  subst hy
  go_wp2_with fail
  refine K2.mono ?_
  rintro e wx ⟨rfl, hx⟩
  have hy := hx.symm
  clear hx K2
  subst hy
  go_wp2
  clear x0
  go_loopg [7, 8, 24] m (fun gg _ _ s24 wx => ∃ k : Nat, k ≤ m ∧ m - k ≤ gg ∧ s24 = .int .i64 k ∧ Aside (CcI B C H R w0 wx lp lc n m (Plain.telK L s a b k)) ∧ Aside (Un (isR R n) w wx))
  case atStart => exact ⟨0, Nat.zero_le _, by omega, rfl, (show Aside _ from by rw [Plain.telK_zero, HM.out]; exact HI.out), (show Aside _ from Un.refl _ _)⟩
  case round =>
    obtain ⟨k, hk, hg, rfl, AI, AU⟩ := hrel
    by_cases hlt : k < m
    · have hltz : (k : Int) < (m : Int) := by omega
      have hkl : k < L.length := by rw [← HM.out]; exact hlt
      have NLr := HNL.out.grow (show Below w0.heap.size w0 wr by rw [HBB.out]; exact AI.out.be)
      obtain ⟨lb, lo, rfl, hlb, lcs⟩ := NLr (by omega)
      have lc0 := lcs k hkl
      obtain ⟨z, ez, hz⟩ := labAt_lt HL.out k
      have ez' : L.getD k 0 = (z : Int) := ez
      rw [ez'] at lc0
      clear lcs NLr ez'
      have KR := KMH.out z hz
      obtain ⟨rr, hrr⟩ : ∃ rr, (Plain.reads (z : Int) a && Plain.reads (z : Int) b) = rr := ⟨_, rfl⟩
      rw [hrr] at KR
      have HRR := hid (show (Plain.reads (Plain.labAt L k) a && Plain.reads (Plain.labAt L k) b) = rr by rw [ez]; exact hrr)
      clear hrr ez
      have hpa0 := HPA.out.1
      have hpa := HPA.out.2
      have hpb0 := HPB.out.1
      have hpb := HPB.out.2
      have hor := HOR.out
      go_wp2
      go_quiet ((go_at_call 22; exact Calls.quiet_of_same (KR _)))
      obtain ⟨w2, hw2⟩ : ∃ w2, w2 = wr.drewN nq := ⟨_, rfl⟩
      rw [← hw2]
      have bx2 : Below wr.heap.size wr w2 := by rw [hw2]; exact below_drewN (Below.refl _ _) _
      have hBr : B ≤ wr.heap.size := by have := AI.out.be.size; rw [HBB.out] at this; exact this
      have I2 := hid (AI.out.grow hBr bx2)
      have U2 := hid (AU.out.trans (Un.of_below bx2))
      have hB2 : B ≤ w2.heap.size := Nat.le_trans hBr bx2.size
      clear hw2 bx2 AI AU hpa0 hpa hpb0 hpb hor KR lc0 hBr hlb
      cases rr with
      | false =>
        have HN := hid (Plain.telK_no s (a := a) (b := b) (k := k) (L := L) (fun x => by have := HRR.out; rw [x.1, x.2] at this; cases this))
        go_wp2
        go_roundg (m - (k + 1))
        case measure => omega
        case rel => exact ⟨k + 1, by omega, by omega, by go_num, (show Aside _ from by rw [HN.out]; exact I2.out), (show Aside _ from U2.out)⟩
      | true =>
        have hra : Plain.reads (Plain.labAt L k) a = true ∧ Plain.reads (Plain.labAt L k) b = true := by have := HRR.out; simpa using this
        have HY := hid (Plain.telK_yes s hra)
        have HMY := hid (Plain.tell_may HG.out a b k)
        obtain ⟨pb, cb, xb, sgb, lyb, fzb⟩ := I2.out.has hb hlt
        obtain ⟨pa, ca, xa, sga, lya, _⟩ := I2.out.has ha hlt
        rw [Plain.telK_at L s a b k k (Nat.le_refl _)] at xb sgb lyb xa sga lya
        have x1 := I2.out.cell1
        have xha := I2.out.cellH ha
        have xhb := I2.out.cellH hb
        have hRb : R b < w2.heap.size := World.block_lt_of_cell? (w := w2) (h := xb)
        have bD := hid (show Below w2.heap.size w2 w2.drew from (Below.refl _ _).drew)
        have KG := hid (gmerge_c (.slice pb (s b k).length cb) (.slice pa (s a k).length ca) (s b k) (s a k) HMY.out.1 HMY.out.2.1 HMY.out.2.2 w2.drew (sgb.below bD.out lyb) (lyb.mono bD.out.size) (sga.below bD.out lya) (lya.mono bD.out.size))
        have FZ := hid fzb
        have HFIN := hid (fun w' (r : Value) (h1 : SegN w' r (Plain.mergeL (s b k) (s a k))) (h2 : Lies w'.heap.size r) (bb : Below w2.heap.size w2 w') => show CcI B C H R w0 (w'.setCell ⟨R b, k, none⟩ r) (some ⟨lb, lo, none⟩) lc n m (Plain.telK L s a b (k + 1)) ∧ Un (isR R n) w (w'.setCell ⟨R b, k, none⟩ r) from
          ⟨by rw [HY.out]; exact (I2.out.grow hB2 bb).set hb h1 h2, (U2.out.trans (Un.of_below bb)).trans (Un.set ⟨b, hb, rfl⟩ _ _)⟩)
        clear sgb lyb fzb sga lya hra HRR HY HMY
        generalize (Plain.mergeL (s b k) (s a k)).length = nl at KG
        generalize (s b k).length = lnb at *
        generalize (s a k).length = lna at *
        go_wp2
        have TS : TelS C H (R a) (R b) a b k n m pb cb lnb pa ca lna w2.drew := ⟨by simpa using x1, by simpa using xha, by simpa using xhb, by simpa using xa, by simpa using xb⟩
        refine AnyBut.begin (TelS C H (R a) (R b) a b k n m pb cb lnb pa ca lna) 30 (by kernel_rfl) ?_
        refine AnyBut.take 0 (.pointer (some ⟨C, 0, none⟩)) rfl (by kernel_rfl) (by kernel_rfl) (by kernel_rfl) (by kernel_rfl) (fun _ _ _ h => h) TS (by rfl) (fun w' hS => ?_) ?_
        · (obtain ⟨q1, q2, q3, q4, q5⟩ := hS; go_simp)
        simp only [Act.put, List.setIfInBounds_toArray, List.set_cons_zero, List.set_cons_succ]
        refine AnyBut.take 1 (.pointer (some ⟨C, 0, none⟩)) rfl (by kernel_rfl) (by kernel_rfl) (by kernel_rfl) (by kernel_rfl) (fun _ _ _ h => h) TS (by rfl) (fun w' hS => ?_) ?_
        · (obtain ⟨q1, q2, q3, q4, q5⟩ := hS; go_simp)
        simp only [Act.put, List.setIfInBounds_toArray, List.set_cons_zero, List.set_cons_succ]
        refine AnyBut.take 2 (.pointer (some ⟨C, 1, none⟩)) rfl (by kernel_rfl) (by kernel_rfl) (by kernel_rfl) (by kernel_rfl) (fun _ _ _ h => h) TS (by rfl) (fun w' hS => ?_) ?_
        · (obtain ⟨q1, q2, q3, q4, q5⟩ := hS; go_simp)
        simp only [Act.put, List.setIfInBounds_toArray, List.set_cons_zero, List.set_cons_succ]
        refine AnyBut.take 3 (.slice (some ⟨H, 0, none⟩) n n) rfl (by kernel_rfl) (by kernel_rfl) (by kernel_rfl) (by kernel_rfl) (fun _ _ _ h => h) TS (by rfl) (fun w' hS => ?_) ?_
        · (obtain ⟨q1, q2, q3, q4, q5⟩ := hS; go_simp)
        simp only [Act.put, List.setIfInBounds_toArray, List.set_cons_zero, List.set_cons_succ]
        refine AnyBut.take 4 (.int .i64 (b : Int)) rfl (by kernel_rfl) (by kernel_rfl) (by kernel_rfl) (by kernel_rfl) (fun _ _ _ h => h) TS (by rfl) (fun w' hS => ?_) ?_
        · (obtain ⟨q1, q2, q3, q4, q5⟩ := hS; go_simp)
        simp only [Act.put, List.setIfInBounds_toArray, List.set_cons_zero, List.set_cons_succ]
        refine AnyBut.take 5 (.pointer (some ⟨H, b, none⟩)) rfl (by kernel_rfl) (by kernel_rfl) (by kernel_rfl) (by kernel_rfl) (fun _ _ _ h => h) TS (by rfl) (fun w' hS => ?_) ?_
        · (obtain ⟨q1, q2, q3, q4, q5⟩ := hS; go_simp)
        simp only [Act.put, List.setIfInBounds_toArray, List.set_cons_zero, List.set_cons_succ]
        refine AnyBut.take 6 (.slice (some ⟨R b, 0, none⟩) m m) rfl (by kernel_rfl) (by kernel_rfl) (by kernel_rfl) (by kernel_rfl) (fun _ _ _ h => h) TS (by rfl) (fun w' hS => ?_) ?_
        · (obtain ⟨q1, q2, q3, q4, q5⟩ := hS; go_simp)
        simp only [Act.put, List.setIfInBounds_toArray, List.set_cons_zero, List.set_cons_succ]
        refine AnyBut.take 7 (.int .i64 (k : Int)) rfl (by kernel_rfl) (by kernel_rfl) (by kernel_rfl) (by kernel_rfl) (fun _ _ _ h => h) TS (by rfl) (fun w' hS => ?_) ?_
        · (obtain ⟨q1, q2, q3, q4, q5⟩ := hS; go_simp)
        simp only [Act.put, List.setIfInBounds_toArray, List.set_cons_zero, List.set_cons_succ]
        refine AnyBut.take 8 (.pointer (some ⟨C, 0, none⟩)) rfl (by kernel_rfl) (by kernel_rfl) (by kernel_rfl) (by kernel_rfl) (fun _ _ _ h => h) TS (by rfl) (fun w' hS => ?_) ?_
        · (obtain ⟨q1, q2, q3, q4, q5⟩ := hS; go_simp)
        simp only [Act.put, List.setIfInBounds_toArray, List.set_cons_zero, List.set_cons_succ]
        refine AnyBut.take 9 (.pointer (some ⟨C, 0, none⟩)) rfl (by kernel_rfl) (by kernel_rfl) (by kernel_rfl) (by kernel_rfl) (fun _ _ _ h => h) TS (by rfl) (fun w' hS => ?_) ?_
        · (obtain ⟨q1, q2, q3, q4, q5⟩ := hS; go_simp)
        simp only [Act.put, List.setIfInBounds_toArray, List.set_cons_zero, List.set_cons_succ]
        refine AnyBut.take 10 (.pointer (some ⟨C, 1, none⟩)) rfl (by kernel_rfl) (by kernel_rfl) (by kernel_rfl) (by kernel_rfl) (fun _ _ _ h => h) TS (by rfl) (fun w' hS => ?_) ?_
        · (obtain ⟨q1, q2, q3, q4, q5⟩ := hS; go_simp)
        simp only [Act.put, List.setIfInBounds_toArray, List.set_cons_zero, List.set_cons_succ]
        refine AnyBut.take 11 (.slice (some ⟨H, 0, none⟩) n n) rfl (by kernel_rfl) (by kernel_rfl) (by kernel_rfl) (by kernel_rfl) (fun _ _ _ h => h) TS (by rfl) (fun w' hS => ?_) ?_
        · (obtain ⟨q1, q2, q3, q4, q5⟩ := hS; go_simp)
        simp only [Act.put, List.setIfInBounds_toArray, List.set_cons_zero, List.set_cons_succ]
        refine AnyBut.take 12 (.int .i64 (b : Int)) rfl (by kernel_rfl) (by kernel_rfl) (by kernel_rfl) (by kernel_rfl) (fun _ _ _ h => h) TS (by rfl) (fun w' hS => ?_) ?_
        · (obtain ⟨q1, q2, q3, q4, q5⟩ := hS; go_simp)
        simp only [Act.put, List.setIfInBounds_toArray, List.set_cons_zero, List.set_cons_succ]
        refine AnyBut.take 13 (.pointer (some ⟨H, b, none⟩)) rfl (by kernel_rfl) (by kernel_rfl) (by kernel_rfl) (by kernel_rfl) (fun _ _ _ h => h) TS (by rfl) (fun w' hS => ?_) ?_
        · (obtain ⟨q1, q2, q3, q4, q5⟩ := hS; go_simp)
        simp only [Act.put, List.setIfInBounds_toArray, List.set_cons_zero, List.set_cons_succ]
        refine AnyBut.take 14 (.slice (some ⟨R b, 0, none⟩) m m) rfl (by kernel_rfl) (by kernel_rfl) (by kernel_rfl) (by kernel_rfl) (fun _ _ _ h => h) TS (by rfl) (fun w' hS => ?_) ?_
        · (obtain ⟨q1, q2, q3, q4, q5⟩ := hS; go_simp)
        simp only [Act.put, List.setIfInBounds_toArray, List.set_cons_zero, List.set_cons_succ]
        refine AnyBut.take 15 (.int .i64 (k : Int)) rfl (by kernel_rfl) (by kernel_rfl) (by kernel_rfl) (by kernel_rfl) (fun _ _ _ h => h) TS (by rfl) (fun w' hS => ?_) ?_
        · (obtain ⟨q1, q2, q3, q4, q5⟩ := hS; go_simp)
        simp only [Act.put, List.setIfInBounds_toArray, List.set_cons_zero, List.set_cons_succ]
        refine AnyBut.take 16 (.pointer (some ⟨R b, k, none⟩)) rfl (by kernel_rfl) (by kernel_rfl) (by kernel_rfl) (by kernel_rfl) (fun _ _ _ h => h) TS (by rfl) (fun w' hS => ?_) ?_
        · (obtain ⟨q1, q2, q3, q4, q5⟩ := hS; go_simp)
        simp only [Act.put, List.setIfInBounds_toArray, List.set_cons_zero, List.set_cons_succ]
        refine AnyBut.take 17 (.slice pb lnb cb) rfl (by kernel_rfl) (by kernel_rfl) (by kernel_rfl) (by kernel_rfl) (fun _ _ _ h => h) TS (by rfl) (fun w' hS => ?_) ?_
        · (obtain ⟨q1, q2, q3, q4, q5⟩ := hS; go_simp)
        simp only [Act.put, List.setIfInBounds_toArray, List.set_cons_zero, List.set_cons_succ]
        refine AnyBut.take 18 (.pointer (some ⟨C, 0, none⟩)) rfl (by kernel_rfl) (by kernel_rfl) (by kernel_rfl) (by kernel_rfl) (fun _ _ _ h => h) TS (by rfl) (fun w' hS => ?_) ?_
        · (obtain ⟨q1, q2, q3, q4, q5⟩ := hS; go_simp)
        simp only [Act.put, List.setIfInBounds_toArray, List.set_cons_zero, List.set_cons_succ]
        refine AnyBut.take 19 (.pointer (some ⟨C, 0, none⟩)) rfl (by kernel_rfl) (by kernel_rfl) (by kernel_rfl) (by kernel_rfl) (fun _ _ _ h => h) TS (by rfl) (fun w' hS => ?_) ?_
        · (obtain ⟨q1, q2, q3, q4, q5⟩ := hS; go_simp)
        simp only [Act.put, List.setIfInBounds_toArray, List.set_cons_zero, List.set_cons_succ]
        refine AnyBut.take 20 (.pointer (some ⟨C, 1, none⟩)) rfl (by kernel_rfl) (by kernel_rfl) (by kernel_rfl) (by kernel_rfl) (fun _ _ _ h => h) TS (by rfl) (fun w' hS => ?_) ?_
        · (obtain ⟨q1, q2, q3, q4, q5⟩ := hS; go_simp)
        simp only [Act.put, List.setIfInBounds_toArray, List.set_cons_zero, List.set_cons_succ]
        refine AnyBut.take 21 (.slice (some ⟨H, 0, none⟩) n n) rfl (by kernel_rfl) (by kernel_rfl) (by kernel_rfl) (by kernel_rfl) (fun _ _ _ h => h) TS (by rfl) (fun w' hS => ?_) ?_
        · (obtain ⟨q1, q2, q3, q4, q5⟩ := hS; go_simp)
        simp only [Act.put, List.setIfInBounds_toArray, List.set_cons_zero, List.set_cons_succ]
        refine AnyBut.take 22 (.int .i64 (a : Int)) rfl (by kernel_rfl) (by kernel_rfl) (by kernel_rfl) (by kernel_rfl) (fun _ _ _ h => h) TS (by rfl) (fun w' hS => ?_) ?_
        · (obtain ⟨q1, q2, q3, q4, q5⟩ := hS; go_simp)
        simp only [Act.put, List.setIfInBounds_toArray, List.set_cons_zero, List.set_cons_succ]
        refine AnyBut.take 23 (.pointer (some ⟨H, a, none⟩)) rfl (by kernel_rfl) (by kernel_rfl) (by kernel_rfl) (by kernel_rfl) (fun _ _ _ h => h) TS (by rfl) (fun w' hS => ?_) ?_
        · (obtain ⟨q1, q2, q3, q4, q5⟩ := hS; go_simp)
        simp only [Act.put, List.setIfInBounds_toArray, List.set_cons_zero, List.set_cons_succ]
        refine AnyBut.take 24 (.slice (some ⟨R a, 0, none⟩) m m) rfl (by kernel_rfl) (by kernel_rfl) (by kernel_rfl) (by kernel_rfl) (fun _ _ _ h => h) TS (by rfl) (fun w' hS => ?_) ?_
        · (obtain ⟨q1, q2, q3, q4, q5⟩ := hS; go_simp)
        simp only [Act.put, List.setIfInBounds_toArray, List.set_cons_zero, List.set_cons_succ]
        refine AnyBut.take 25 (.int .i64 (k : Int)) rfl (by kernel_rfl) (by kernel_rfl) (by kernel_rfl) (by kernel_rfl) (fun _ _ _ h => h) TS (by rfl) (fun w' hS => ?_) ?_
        · (obtain ⟨q1, q2, q3, q4, q5⟩ := hS; go_simp)
        simp only [Act.put, List.setIfInBounds_toArray, List.set_cons_zero, List.set_cons_succ]
        refine AnyBut.take 26 (.pointer (some ⟨R a, k, none⟩)) rfl (by kernel_rfl) (by kernel_rfl) (by kernel_rfl) (by kernel_rfl) (fun _ _ _ h => h) TS (by rfl) (fun w' hS => ?_) ?_
        · (obtain ⟨q1, q2, q3, q4, q5⟩ := hS; go_simp)
        simp only [Act.put, List.setIfInBounds_toArray, List.set_cons_zero, List.set_cons_succ]
        refine AnyBut.take 27 (.slice pa lna ca) rfl (by kernel_rfl) (by kernel_rfl) (by kernel_rfl) (by kernel_rfl) (fun _ _ _ h => h) TS (by rfl) (fun w' hS => ?_) ?_
        · (obtain ⟨q1, q2, q3, q4, q5⟩ := hS; go_simp)
        simp only [Act.put, List.setIfInBounds_toArray, List.set_cons_zero, List.set_cons_succ]
        refine AnyBut.one 28 (by kernel_rfl) rfl (by rfl) (fun K hK => ?_)
        go_simp
        refine KG.out.mono ?_
        rintro e w' ⟨pr, cr, rfl, hs, hl, bb⟩
        have BB := hid (bD.out.trans (bb.mono bD.out.size))
        have HS := hid hs
        have HL2 := hid hl
        have hHb : H < w2.heap.size := World.block_lt_of_cell? (w := w2) (h := xhb)
        have hRa : R a < w2.heap.size := World.block_lt_of_cell? (w := w2) (h := xa)
        have hCb : C < w2.heap.size := World.block_lt_of_cell? (w := w2) (h := x1)
        have TS2 : TelS C H (R a) (R b) a b k n m pb cb lnb pa ca lna w' := ⟨(BB.out.cell (p := ⟨C, 1, none⟩) hCb).trans x1, (BB.out.cell (p := ⟨H, a, none⟩) hHb).trans xha, (BB.out.cell (p := ⟨H, b, none⟩) hHb).trans xhb, (BB.out.cell (p := ⟨R a, k, none⟩) hRa).trans xa, (BB.out.cell (p := ⟨R b, k, none⟩) hRb).trans xb⟩
        have fz : w'.frozen? ⟨R b, k, none⟩ = false := by
          have e := BB.out.block (R b) hRb
          have z := FZ.out
          simp only [World.frozen?] at z ⊢
          rw [e]; exact z
        have xb' := TS2.q5
        clear bb hs hl
        refine hK.out _ _ (fun _ => TS2) ?_
        clear hK K
        refine AnyBut.take 29 (.pointer (some ⟨R b, k, none⟩)) rfl (by kernel_rfl) (by kernel_rfl) (by kernel_rfl) (by kernel_rfl) (fun _ _ _ h => h) TS2 (by rfl) (fun w' hS => ?_) ?_
        · (obtain ⟨q1, q2, q3, q4, q5⟩ := hS; go_simp)
        simp only [Act.put, List.setIfInBounds_toArray, List.set_cons_zero, List.set_cons_succ]
        refine AnyBut.one 30 (by kernel_rfl) rfl (by rfl) (fun K hK => ?_)
        go_simp
        refine hK.out _ _ (fun h => absurd rfl h) ?_
        clear hK K
        refine AnyBut.done (by kernel_rfl) ?_
        go_wp2
        go_roundg (m - (k + 1))
        case measure => omega
        case rel => exact ⟨k + 1, by omega, by omega, by go_num, (show Aside _ from (HFIN.out _ _ HS.out HL2.out BB.out).1), (show Aside _ from (HFIN.out _ _ HS.out HL2.out BB.out).2)⟩
    · have hltz : ¬ (k : Int) < (m : Int) := by omega
      have ek : k = m := by omega
      have FI := hid (show CcI B C H R w0 wr lp lc n m (Plain.tellS L s a b) by have := AI.out; rw [ek] at this; rw [← Plain.telK_all, ← HM.out]; exact this)
      clear AI ek
      go_wp2
      go_ret
      exact ⟨rfl, FI.out, AU.out⟩

theorem tell_c (B C H : Nat) (R : Nat → Nat) (w0 : World) (lp : Option Addr) (lc n : Nat) (L : List Int) (s : Plain.Stt) (t : Plain.Tu) (T : Int) (hk : t.kind = 3) (hn : n ≤ 8) (hL4 : L.length ≤ 4) (hL : ∀ x, x ∈ L → 0 ≤ x ∧ x < 256) (hG : Plain.Gok n L T s)
    (w : World) (hB : w0.heap.size = B) (I : CcI B C H R w0 w lp lc n L.length s) (NL : Nums w0 lp L) :
    Calls Try.prog 35 #[.pointer (some ⟨C, 0, none⟩), .int .i64 t.who, .int .i64 t.to] w fun e w' => DoP B C H R w0 lp lc n L s t w e w' := by
  have hBw : B ≤ w.heap.size := by have := I.be.size; rw [hB] at this; exact this
  by_cases h : (0 ≤ t.who ∧ t.who < n) ∧ (0 ≤ t.to ∧ t.to < n)
  · have hE : Plain.tuE n L s t = 0 := by
      unfold Plain.tuE
      rw [if_neg (by omega), if_neg (by omega), if_pos hk, if_neg (by omega)]
    have hS : Plain.tuS n L s t = Plain.tellS L s t.who.toNat t.to.toNat := by
      unfold Plain.tuS
      rw [hE, if_neg (by decide), if_pos hk]
    have K := tell_in B C H R w0 lp lc n L s t.who.toNat t.to.toNat T (by omega) (by omega) hn hL4 hL hG w hB I NL
    rw [show ((t.who.toNat : Nat) : Int) = t.who by omega, show ((t.to.toNat : Nat) : Int) = t.to by omega] at K
    exact K.mono fun e w' ⟨h1, h2, h3⟩ => ⟨by rw [hE]; exact h1, by rw [hS]; exact h2, h3⟩
  · have hE : Plain.tuE n L s t = 2 := by
      unfold Plain.tuE
      rw [if_neg (by omega)]
      by_cases h1 : t.who < 0 ∨ (n : Int) ≤ t.who
      · rw [if_pos h1]
      · rw [if_neg h1, if_pos hk, if_pos (by omega)]
    exact (tell_no B C H R w0 lp lc n L.length s t.who t.to h w I).mono fun e w' ⟨h1, h2⟩ => by
      subst h1
      subst h2
      exact doP_no hE (by decide) hBw I (Below.refl _ _)

set_option maxHeartbeats 2000000 in
set_option maxRecDepth 100000 in
/-- The circle's do. -/
theorem do_c (B C H : Nat) (R : Nat → Nat) (w0 : World) (lp : Option Addr) (lc n : Nat) (L : List Int) (s : Plain.Stt) (t : Plain.Tu) (T : Int) (hn : n ≤ 8) (hL4 : L.length ≤ 4) (hL : ∀ x, x ∈ L → 0 ≤ x ∧ x < 256) (hG : Plain.Gok n L T s) (hT : 0 ≤ T ∧ T < 1000000)
    (w : World) (hB : w0.heap.size = B) (I : CcI B C H R w0 w lp lc n L.length s) (NL : Nums w0 lp L) :
    Calls Try.prog 23 #[.pointer (some ⟨C, 0, none⟩), aggT t] w fun e w' => DoP B C H R w0 lp lc n L s t w e w' := by
  have hBw : B ≤ w.heap.size := by have := I.be.size; rw [hB] at this; exact this
  have BA := hid (show Below w.heap.size w (w.alloc (boxT t)) from (Below.refl _ _).alloc (Nat.le_refl _) _)
  have I0 := hid (I.grow hBw BA.out)
  have hBa : B ≤ (w.alloc (boxT t)).heap.size := Nat.le_trans hBw BA.out.size
  have NLa := NL.grow (show Below w0.heap.size w0 (w.alloc (boxT t)) by rw [hB]; exact I0.out.be)
  have BK := hid (fun e w' (h : DoP B C H R w0 lp lc n L s t (w.alloc (boxT t)) e w') => show DoP B C H R w0 lp lc n L s t w e w' from ⟨h.1, h.2.1, (Un.of_below BA.out).trans h.2.2⟩)
  by_cases h12 : t.kind = 1 ∨ t.kind = 2
  · have K := write_c B C H R w0 lp lc n L s t T h12 hn hL4 hL hG hT _ hBa I0.out NLa
    clear I I0 NL NLa hG hL
    obtain ⟨kd, wh, tz, la, ke, va⟩ := t
    dsimp only at h12
    rcases h12 with rfl | rfl
    all_goals
      go_enter Try.func23, Try.ntmps23
      go_wp2_with fail
      refine K.mono ?_
      rintro e w1 h1
      have HX := hid (BK.out _ _ h1)
      obtain ⟨rfl, _, _⟩ := h1
      clear K BK BA
      generalize Plain.tuE n L s _ = r at HX ⊢
      go_wp2
      go_ret
      exact HX.out
  by_cases h3 : t.kind = 3
  · have K := tell_c B C H R w0 lp lc n L s t T h3 hn hL4 hL hG _ hB I0.out NL
    clear I I0 NL NLa hG hL h12
    obtain ⟨kd, wh, tz, la, ke, va⟩ := t
    dsimp only at h3 K
    subst h3
    go_enter Try.func23, Try.ntmps23
    go_wp2_with fail
    refine K.mono ?_
    rintro e w1 h1
    have HX := hid (BK.out _ _ h1)
    obtain ⟨rfl, _, _⟩ := h1
    clear K BK BA
    generalize Plain.tuE n L s _ = r at HX ⊢
    go_wp2
    go_ret
    exact HX.out
  · have HX := hid (doP_no (t := t) (E := 3) (by unfold Plain.tuE; rw [if_pos (by omega)]) (by decide) hBw I BA.out)
    clear I I0 NL NLa hG hL BK
    obtain ⟨kd, wh, tz, la, ke, va⟩ := t
    dsimp only at h12 h3
    have b1 : (kd == 1) = false := by simp; omega
    have b2 : (kd == 2) = false := by simp; omega
    have b3 : (kd == 3) = false := by simp; omega
    clear h12 h3
    go_enter Try.func23, Try.ntmps23
    go_wp2
    go_ret
    exact HX.out
end Go.Proofs.Ytdcgkeanghhopak
