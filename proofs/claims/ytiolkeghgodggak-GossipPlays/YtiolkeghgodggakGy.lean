/-
  A store's Hear.
-/
import Derived.Test.YtiolkeghgodggakGv
namespace Go.Proofs.Ytiolkeghgodggak
open Go.RowKit Go.Shelf Go.Sort

namespace Plain
/-- What was heard of the first k labels. -/
def heaK (L : List Int) (frm who : Nat) (s t : Nat → List En) (k : Nat) : Nat → List En := fun j => if j < k ∧ (reads (labAt L j) frm = true ∧ reads (labAt L j) who = true) then mergeL (s j) (t j) else s j
theorem heaK_zero (L : List Int) (frm who : Nat) (s t : Nat → List En) : heaK L frm who s t 0 = s := by
  funext j
  unfold heaK
  rw [if_neg (by omega)]
theorem heaK_at (L : List Int) (frm who : Nat) (s t : Nat → List En) (k : Nat) : heaK L frm who s t k k = s k := by
  unfold heaK
  rw [if_neg (by omega)]
theorem heaK_no {L : List Int} {frm who : Nat} (s t : Nat → List En) {k : Nat} (h : ¬ (reads (labAt L k) frm = true ∧ reads (labAt L k) who = true)) : heaK L frm who s t (k + 1) = heaK L frm who s t k := by
  funext j
  unfold heaK
  by_cases e : j = k
  · subst e
    rw [if_neg (fun x => h x.2), if_neg (fun x => h x.2)]
  · by_cases c : j < k ∧ (reads (labAt L j) frm = true ∧ reads (labAt L j) who = true)
    · rw [if_pos c, if_pos ⟨by omega, c.2⟩]
    · rw [if_neg c, if_neg (fun x => c ⟨by omega, x.2⟩)]
theorem heaK_yes {L : List Int} {frm who : Nat} (s t : Nat → List En) {k : Nat} (h : reads (labAt L k) frm = true ∧ reads (labAt L k) who = true) : heaK L frm who s t (k + 1) = fun b => if b = k then mergeL (s k) (t k) else heaK L frm who s t k b := by
  funext j
  unfold heaK
  by_cases e : j = k
  · subst e
    rw [if_pos ⟨by omega, h⟩, if_pos rfl]
  · rw [if_neg e]
    by_cases c : j < k ∧ (reads (labAt L j) frm = true ∧ reads (labAt L j) who = true)
    · rw [if_pos c, if_pos ⟨by omega, c.2⟩]
    · rw [if_neg c, if_neg (fun x => c ⟨by omega, x.2⟩)]
theorem Sok.merge {T : Int} {s t : Nat → List En} (h : Sok T s) (g : Sok T t) (k : Nat) : (mergeL (s k) (t k)).length ≤ 8 ∧ Srt (mergeL (s k) (t k)) ∧ ∀ e ∈ mergeL (s k) (t k), mayB e = true ∧ (0 ≤ e.key ∧ e.key < 8) ∧ e.time ≤ T ∧ e.value ≤ 255 := by
  have hs := merge_srt (h.srt k) (t k)
  have hm : ∀ e ∈ mergeL (s k) (t k), mayB e = true ∧ (0 ≤ e.key ∧ e.key < 8) ∧ e.time ≤ T ∧ e.value ≤ 255 := fun e he => by
    rcases merge_mem he with h1 | h1
    · exact h.may k e h1
    · exact g.may k e h1
  refine ⟨?_, hs, hm⟩
  have := srt_len hs 0 8 (fun e he => (hm e he).2.1)
  simpa using this
theorem Sok.hear {T : Int} {s t : Nat → List En} (h : Sok T s) (g : Sok T t) (L : List Int) (frm who k : Nat) : Sok T (heaK L frm who s t k) := by
  refine ⟨fun j => ?_, fun j e he => ?_⟩
  · unfold heaK
    split
    · exact (h.merge g j).2.1
    · exact h.srt j
  · unfold heaK at he
    split at he
    · exact (h.merge g j).2.2 e he
    · exact h.may j e he
end Plain
/-- What is told, from label k on: lists in a row of slices. -/
structure ToldL (w : World) (TB tf m k : Nat) (t : Nat → List Plain.En) : Prop where
  at' : ∀ i, k ≤ i → i < m → ∃ p c, w.cell? ⟨TB, tf + i, none⟩ = some (.slice p (t i).length c) ∧ SegN w (.slice p (t i).length c) (t i) ∧ Lies w.heap.size (.slice p (t i).length c)
theorem ToldL.grow {w w' : World} {TB tf m k : Nat} {t : Nat → List Plain.En} (h : ToldL w TB tf m k t) (hTB : TB < w.heap.size ∨ m ≤ k) (b : Below w.heap.size w w') : ToldL w' TB tf m k t := ⟨fun i hi hm => by
  obtain ⟨p, c, h1, h2, h3⟩ := h.at' i hi hm
  exact ⟨p, c, (b.cell (p := ⟨TB, tf + i, none⟩) (hTB.resolve_right (by omega))).trans h1, h2.below b h3, h3.mono b.size⟩⟩
theorem ToldL.set {w : World} {TB tf m k H T n : Nat} {t : Nat → List Plain.En} {f : Nat → Value} (h : ToldL w TB tf m k t) (r : w.rowIs H T n f) (hf : ∀ j, j < n → ∃ p n c, f j = .slice p n c) (hne : TB ≠ H ∨ tf = 0) (x : Value) : ToldL (w.setCell ⟨H, k, none⟩ x) TB tf m (k + 1) t := ⟨fun i hi hm => by
  obtain ⟨p, c, h1, h2, h3⟩ := h.at' i (by omega) hm
  refine ⟨p, c, ?_, seg_set h2 r hf k x, by simpa using h3⟩
  rw [← h1]
  refine World.cell?_setCell_other _ _ _ _ ?_
  intro e
  rcases hne with y | y
  · exact y (congrArg Addr.block e).symm
  · have e2 : k = tf + i := congrArg Addr.off e
    omega⟩
/-- The cells that a Hear reads of a label. -/
structure HeaS (R oo H TB tf k m : Nat) (pb : Option Addr) (cb lnb : Nat) (pa : Option Addr) (ca lna : Nat) (w : World) : Prop where
  q1 : w.cell? ⟨R, oo + 2, none⟩ = some (.slice (some ⟨H, 0, none⟩) m m)
  q2 : w.cell? ⟨H, k, none⟩ = some (.slice pb lnb cb)
  q3 : w.cell? ⟨TB, tf + k, none⟩ = some (.slice pa lna ca)

set_option maxHeartbeats 8000000 in
set_option maxRecDepth 100000 in
/-- Hear, where there are labels. -/
theorem hear_some (R oo : Nat) (XX : Win) (H who frm : Nat) (lp : Option Addr) (lc : Nat) (L : List Int) (s t : Nat → List Plain.En) (TB tf tc : Nat) (T : Int) (hw : who < 8) (hfr : frm < 8) (hL4 : L.length ≤ 4) (hL : ∀ x, x ∈ L → 0 ≤ x ∧ x < 256) (hS : Plain.Sok T s) (hU : Plain.Sok T t) (hne : TB ≠ H ∨ tf = 0)
    (w : World) (hTB : TB < w.heap.size) (h : StI R oo XX H w who lp lc L s) (ht : ToldL w TB tf L.length 0 t) :
    Calls Try.prog 39 #[.pointer (some ⟨R, oo, none⟩), .int .i64 (frm : Int), .slice (some ⟨TB, tf, none⟩) L.length tc] w fun e w' => e = .returned (.tuple #[]) ∧ PutP R oo XX H who lp lc L (Plain.heaK L frm who s t L.length) w w' := by
  have x1 := h.c1
  have hpa0 : (0 : Int) ≤ 2 ^ frm := Int.pow_nonneg (by decide)
  have hpb0 : (0 : Int) ≤ 2 ^ who := Int.pow_nonneg (by decide)
  have hpaz : ((2 ^ frm : Nat) : Int) = (2 : Int) ^ frm := by simp
  have hpbz : ((2 ^ who : Nat) : Int) = (2 : Int) ^ who := by simp
  have hpa : (2 : Int) ^ frm ≤ 128 := by
    have h2 : 2 ^ frm ≤ 2 ^ 7 := Nat.pow_le_pow_right (by decide) (by omega)
    omega
  have hpb : (2 : Int) ^ who ≤ 128 := by
    have h2 : 2 ^ who ≤ 2 ^ 7 := Nat.pow_le_pow_right (by decide) (by omega)
    omega
  have hor := LabP.or_nat (2 ^ frm) (2 ^ who) (by omega) (by omega)
  rw [hpaz, hpbz] at hor
  have KM := fun (s : Nat) (hs : s < 256) W => mayRead_yes (2 ^ frm ||| 2 ^ who) s (LabP.or_lt (by omega) (by omega)) hs W
  generalize hoz : (((2 ^ frm ||| 2 ^ who : Nat)) : Int) = oz at hor KM
  have KMH := hid (show ∀ (s : Nat), s < 256 → ∀ W, Calls Try.prog 22 #[.int .i64 oz, .int .i64 (s : Int)] W fun e w' => e = .returned (.bool (Plain.reads (s : Int) frm && Plain.reads (s : Int) who)) ∧ w' = W from fun s hs W => by rw [← LabP.inB_two]; exact KM s hs W)
  have HOR := hid hor
  have HPA := hid (And.intro hpa0 hpa)
  have HPB := hid (And.intro hpb0 hpb)
  have HI := hid h
  have HL := hid hL
  have HS := hid hS
  have HU := hid hU
  have HTL := hid ht
  have HNE := hid hne
  obtain ⟨m, hm⟩ : ∃ m, m = L.length := ⟨_, rfl⟩
  rw [← hm] at x1 hL4 HTL ⊢
  have HM := hid hm
  clear h hL hS hU ht hne hpaz hpbz hpa0 hpb0 hpa hpb hor KM hoz hm
  go_enter Try.func39, Try.ntmps39
  go_wp2
  clear x1
  go_loopg [6, 7, 13] m (fun gg _ _ s13 wx => ∃ k : Nat, k ≤ m ∧ m - k ≤ gg ∧ s13 = .int .i64 k ∧ Aside (StI R oo XX H wx who lp lc L (Plain.heaK L frm who s t k)) ∧ Aside (ToldL wx TB tf m k t) ∧ Aside (Kp (fun _ => False) H w wx))
  case atStart => exact ⟨0, Nat.zero_le _, by omega, rfl, (show Aside _ from by rw [Plain.heaK_zero]; exact HI.out), (show Aside _ from HTL.out), (show Aside _ from Kp.refl _ _ _)⟩
  case round =>
    obtain ⟨k, hk, hg, rfl, AI, AT, AK⟩ := hrel
    have hTBr : TB < wr.heap.size := Nat.lt_of_lt_of_le hTB AK.out.size
    by_cases hlt : k < m
    · have hltz : (k : Int) < (m : Int) := by omega
      have hkl : k < L.length := by rw [← HM.out]; exact hlt
      obtain ⟨lb, lo, rfl, hlb, lcs⟩ := AI.out.lab (by omega)
      have lc0 := lcs k hkl
      obtain ⟨z, ez, hz⟩ := labAt_lt HL.out k
      have ez' : L.getD k 0 = (z : Int) := ez
      rw [ez'] at lc0
      clear lcs ez'
      have KR := KMH.out z hz
      obtain ⟨rr, hrr⟩ : ∃ rr, (Plain.reads (z : Int) frm && Plain.reads (z : Int) who) = rr := ⟨_, rfl⟩
      rw [hrr] at KR
      have HRR := hid (show (Plain.reads (Plain.labAt L k) frm && Plain.reads (Plain.labAt L k) who) = rr by rw [ez]; exact hrr)
      clear hrr ez
      have hpa0 := HPA.out.1
      have hpa := HPA.out.2
      have hpb0 := HPB.out.1
      have hpb := HPB.out.2
      have hor := HOR.out
      have r0 := AI.out.c0
      go_wp2
      go_quiet ((go_at_call 22; exact Calls.quiet_of_same (KR _)))
      obtain ⟨w2, hw2⟩ : ∃ w2, w2 = wr.drewN nq := ⟨_, rfl⟩
      rw [← hw2]
      have bx2 : Below wr.heap.size wr w2 := by rw [hw2]; exact below_drewN (Below.refl _ _) _
      have I2 := hid (AI.out.grow bx2)
      have T2 := hid (AT.out.grow (.inl hTBr) bx2)
      have U2 := hid (AK.out.trans (Kp.of_below bx2))
      have hTB2 : TB < w2.heap.size := Nat.lt_of_lt_of_le hTBr bx2.size
      clear hw2 bx2 AI AT AK hpa0 hpa hpb0 hpb hor KR lc0 hlb r0 hTBr
      cases rr with
      | false =>
        have HN := hid (Plain.heaK_no s t (frm := frm) (who := who) (k := k) (L := L) (fun x => by have := HRR.out; rw [x.1, x.2] at this; cases this))
        go_wp2
        go_roundg (m - (k + 1))
        case measure => omega
        case rel => exact ⟨k + 1, by omega, by omega, by go_num, (show Aside _ from by rw [HN.out]; exact I2.out), (show Aside _ from ⟨fun i hi hm => T2.out.at' i (by omega) hm⟩), (show Aside _ from U2.out)⟩
      | true =>
        have hra : Plain.reads (Plain.labAt L k) frm = true ∧ Plain.reads (Plain.labAt L k) who = true := by have := HRR.out; simpa using this
        have HY := hid (Plain.heaK_yes s t hra)
        have HMY := hid (And.intro (HS.out.mayL k) (And.intro (HU.out.mayL k) (HS.out.merge HU.out k).1))
        obtain ⟨pb, cb, xb, sgb, lyb, fzb⟩ := I2.out.has hkl
        obtain ⟨pa, ca, xa, sga, lya⟩ := T2.out.at' k (Nat.le_refl _) hlt
        rw [Plain.heaK_at] at xb sgb lyb
        have x1 := I2.out.c2
        rw [← HM.out] at x1
        have hHb : H < w2.heap.size := World.block_lt_of_cell? (w := w2) (h := xb)
        have hRb : R < w2.heap.size := World.block_lt_of_cell? (w := w2) (h := x1)
        have bD := hid (show Below w2.heap.size w2 w2.drew from (Below.refl _ _).drew)
        have KG := hid (gmerge_c (.slice pb (s k).length cb) (.slice pa (t k).length ca) (s k) (t k) HMY.out.1 HMY.out.2.1 HMY.out.2.2 w2.drew (sgb.below bD.out lyb) (lyb.mono bD.out.size) (sga.below bD.out lya) (lya.mono bD.out.size))
        have FZ := hid fzb
        have HFIN := hid (fun w' (r : Value) (h1 : SegN w' r (Plain.mergeL (s k) (t k))) (h2 : Lies w'.heap.size r) (bb : Below w2.heap.size w2 w') => show StI R oo XX H (w'.setCell ⟨H, k, none⟩ r) who (some ⟨lb, lo, none⟩) lc L (Plain.heaK L frm who s t (k + 1)) ∧ ToldL (w'.setCell ⟨H, k, none⟩ r) TB tf m (k + 1) t ∧ Kp (fun _ => False) H w (w'.setCell ⟨H, k, none⟩ r) from by
          have I3 := I2.out.grow bb
          obtain ⟨f3, hf3⟩ := I3.hs
          exact ⟨by rw [HY.out]; exact I3.set h1 h2, (T2.out.grow (.inl hTB2) bb).set hf3.row hf3.slices HNE.out r, (U2.out.trans (Kp.of_below bb)).trans (Kp.setR _ _)⟩)
        clear sgb lyb fzb sga lya hra HRR HY HMY
        obtain ⟨nl, hnl⟩ : ∃ nl, nl = (Plain.mergeL (s k) (t k)).length := ⟨_, rfl⟩
        rw [← hnl] at KG
        obtain ⟨lnb, hlnb⟩ : ∃ lnb, lnb = (s k).length := ⟨_, rfl⟩
        obtain ⟨lna, hlna⟩ : ∃ lna, lna = (t k).length := ⟨_, rfl⟩
        rw [← hlnb] at KG xb
        rw [← hlna] at KG xa
        clear hnl hlnb hlna
        go_wp2
        have TS : HeaS R oo H TB tf k m pb cb lnb pa ca lna w2.drew := ⟨by simpa using x1, by simpa using xb, by simpa using xa⟩
        refine AnyBut.begin (HeaS R oo H TB tf k m pb cb lnb pa ca lna) 18 (by kernel_rfl) ?_
        refine AnyBut.take 0 (.pointer (some ⟨R, oo, none⟩)) rfl (by kernel_rfl) (by kernel_rfl) (by kernel_rfl) (by kernel_rfl) (fun _ _ _ h => h) TS (by rfl) (fun w' hS => ?_) ?_
        · (obtain ⟨q1, q2, q3⟩ := hS; go_simp)
        simp only [Act.put, List.setIfInBounds_toArray, List.set_cons_zero, List.set_cons_succ]
        refine AnyBut.take 1 (.pointer (some ⟨R, oo, none⟩)) rfl (by kernel_rfl) (by kernel_rfl) (by kernel_rfl) (by kernel_rfl) (fun _ _ _ h => h) TS (by rfl) (fun w' hS => ?_) ?_
        · (obtain ⟨q1, q2, q3⟩ := hS; go_simp)
        simp only [Act.put, List.setIfInBounds_toArray, List.set_cons_zero, List.set_cons_succ]
        refine AnyBut.take 2 (.pointer (some ⟨R, oo + 2, none⟩)) rfl (by kernel_rfl) (by kernel_rfl) (by kernel_rfl) (by kernel_rfl) (fun _ _ _ h => h) TS (by rfl) (fun w' hS => ?_) ?_
        · (obtain ⟨q1, q2, q3⟩ := hS; go_simp)
        simp only [Act.put, List.setIfInBounds_toArray, List.set_cons_zero, List.set_cons_succ]
        refine AnyBut.take 3 (.slice (some ⟨H, 0, none⟩) m m) rfl (by kernel_rfl) (by kernel_rfl) (by kernel_rfl) (by kernel_rfl) (fun _ _ _ h => h) TS (by rfl) (fun w' hS => ?_) ?_
        · (obtain ⟨q1, q2, q3⟩ := hS; go_simp)
        simp only [Act.put, List.setIfInBounds_toArray, List.set_cons_zero, List.set_cons_succ]
        refine AnyBut.take 4 (.int .i64 (k : Int)) rfl (by kernel_rfl) (by kernel_rfl) (by kernel_rfl) (by kernel_rfl) (fun _ _ _ h => h) TS (by rfl) (fun w' hS => ?_) ?_
        · (obtain ⟨q1, q2, q3⟩ := hS; go_simp)
        simp only [Act.put, List.setIfInBounds_toArray, List.set_cons_zero, List.set_cons_succ]
        refine AnyBut.take 5 (.pointer (some ⟨R, oo, none⟩)) rfl (by kernel_rfl) (by kernel_rfl) (by kernel_rfl) (by kernel_rfl) (fun _ _ _ h => h) TS (by rfl) (fun w' hS => ?_) ?_
        · (obtain ⟨q1, q2, q3⟩ := hS; go_simp)
        simp only [Act.put, List.setIfInBounds_toArray, List.set_cons_zero, List.set_cons_succ]
        refine AnyBut.take 6 (.pointer (some ⟨R, oo, none⟩)) rfl (by kernel_rfl) (by kernel_rfl) (by kernel_rfl) (by kernel_rfl) (fun _ _ _ h => h) TS (by rfl) (fun w' hS => ?_) ?_
        · (obtain ⟨q1, q2, q3⟩ := hS; go_simp)
        simp only [Act.put, List.setIfInBounds_toArray, List.set_cons_zero, List.set_cons_succ]
        refine AnyBut.take 7 (.pointer (some ⟨R, oo + 2, none⟩)) rfl (by kernel_rfl) (by kernel_rfl) (by kernel_rfl) (by kernel_rfl) (fun _ _ _ h => h) TS (by rfl) (fun w' hS => ?_) ?_
        · (obtain ⟨q1, q2, q3⟩ := hS; go_simp)
        simp only [Act.put, List.setIfInBounds_toArray, List.set_cons_zero, List.set_cons_succ]
        refine AnyBut.take 8 (.slice (some ⟨H, 0, none⟩) m m) rfl (by kernel_rfl) (by kernel_rfl) (by kernel_rfl) (by kernel_rfl) (fun _ _ _ h => h) TS (by rfl) (fun w' hS => ?_) ?_
        · (obtain ⟨q1, q2, q3⟩ := hS; go_simp)
        simp only [Act.put, List.setIfInBounds_toArray, List.set_cons_zero, List.set_cons_succ]
        refine AnyBut.take 9 (.int .i64 (k : Int)) rfl (by kernel_rfl) (by kernel_rfl) (by kernel_rfl) (by kernel_rfl) (fun _ _ _ h => h) TS (by rfl) (fun w' hS => ?_) ?_
        · (obtain ⟨q1, q2, q3⟩ := hS; go_simp)
        simp only [Act.put, List.setIfInBounds_toArray, List.set_cons_zero, List.set_cons_succ]
        refine AnyBut.take 10 (.pointer (some ⟨H, k, none⟩)) rfl (by kernel_rfl) (by kernel_rfl) (by kernel_rfl) (by kernel_rfl) (fun _ _ _ h => h) TS (by rfl) (fun w' hS => ?_) ?_
        · (obtain ⟨q1, q2, q3⟩ := hS; go_simp)
        simp only [Act.put, List.setIfInBounds_toArray, List.set_cons_zero, List.set_cons_succ]
        refine AnyBut.take 11 (.slice pb lnb cb) rfl (by kernel_rfl) (by kernel_rfl) (by kernel_rfl) (by kernel_rfl) (fun _ _ _ h => h) TS (by rfl) (fun w' hS => ?_) ?_
        · (obtain ⟨q1, q2, q3⟩ := hS; go_simp)
        simp only [Act.put, List.setIfInBounds_toArray, List.set_cons_zero, List.set_cons_succ]
        refine AnyBut.take 12 (.slice (some ⟨TB, tf, none⟩) m tc) rfl (by kernel_rfl) (by kernel_rfl) (by kernel_rfl) (by kernel_rfl) (fun _ _ _ h => h) TS (by rfl) (fun w' hS => ?_) ?_
        · (obtain ⟨q1, q2, q3⟩ := hS; go_simp)
        simp only [Act.put, List.setIfInBounds_toArray, List.set_cons_zero, List.set_cons_succ]
        refine AnyBut.take 13 (.int .i64 (k : Int)) rfl (by kernel_rfl) (by kernel_rfl) (by kernel_rfl) (by kernel_rfl) (fun _ _ _ h => h) TS (by rfl) (fun w' hS => ?_) ?_
        · (obtain ⟨q1, q2, q3⟩ := hS; go_simp)
        simp only [Act.put, List.setIfInBounds_toArray, List.set_cons_zero, List.set_cons_succ]
        refine AnyBut.take 14 (.pointer (some ⟨TB, tf + k, none⟩)) rfl (by kernel_rfl) (by kernel_rfl) (by kernel_rfl) (by kernel_rfl) (fun _ _ _ h => h) TS (by rfl) (fun w' hS => ?_) ?_
        · (obtain ⟨q1, q2, q3⟩ := hS; go_simp)
        simp only [Act.put, List.setIfInBounds_toArray, List.set_cons_zero, List.set_cons_succ]
        refine AnyBut.take 15 (.slice pa lna ca) rfl (by kernel_rfl) (by kernel_rfl) (by kernel_rfl) (by kernel_rfl) (fun _ _ _ h => h) TS (by rfl) (fun w' hS => ?_) ?_
        · (obtain ⟨q1, q2, q3⟩ := hS; go_simp)
        simp only [Act.put, List.setIfInBounds_toArray, List.set_cons_zero, List.set_cons_succ]
        refine AnyBut.one 16 (by kernel_rfl) rfl (by rfl) (fun K hK => ?_)
        go_simp
        refine KG.out.mono ?_
        rintro e w' ⟨pr, cr, rfl, hs, hl, bb⟩
        have BB := hid (bD.out.trans (bb.mono bD.out.size))
        have HSS := hid hs
        have HL2 := hid hl
        have TS2 : HeaS R oo H TB tf k m pb cb lnb pa ca lna w' := ⟨(BB.out.cell (p := ⟨R, oo + 2, none⟩) hRb).trans x1, (BB.out.cell (p := ⟨H, k, none⟩) hHb).trans xb, (BB.out.cell (p := ⟨TB, tf + k, none⟩) hTB2).trans xa⟩
        have fz : w'.frozen? ⟨H, k, none⟩ = false := by
          have e := BB.out.block H hHb
          have z := FZ.out
          simp only [World.frozen?] at z ⊢
          rw [e]; exact z
        have xb' := TS2.q2
        clear bb hs hl
        refine hK.out _ _ (fun _ => TS2) ?_
        clear hK K
        refine AnyBut.one 17 (by kernel_rfl) rfl (by rfl) (fun K hK => ?_)
        go_simp
        refine hK.out _ _ (fun _ => TS2) ?_
        clear hK K
        refine AnyBut.one 18 (by kernel_rfl) rfl (by rfl) (fun K hK => ?_)
        go_simp
        refine hK.out _ _ (fun h => absurd rfl h) ?_
        clear hK K
        refine AnyBut.done (by kernel_rfl) ?_
        go_wp2
        go_roundg (m - (k + 1))
        case measure => omega
        case rel => exact ⟨k + 1, by omega, by omega, by go_num, (show Aside _ from (HFIN.out _ _ HSS.out HL2.out BB.out).1), (show Aside _ from (HFIN.out _ _ HSS.out HL2.out BB.out).2.1), (show Aside _ from (HFIN.out _ _ HSS.out HL2.out BB.out).2.2)⟩
    · have hltz : ¬ (k : Int) < (m : Int) := by omega
      have ek : k = m := by omega
      have FI := hid (show PutP R oo XX H who lp lc L (Plain.heaK L frm who s t m) w wr from ⟨by rw [← ek]; exact AI.out, AK.out⟩)
      clear AI AT AK ek
      go_wp2
      go_end0
      exact ⟨rfl, FI.out⟩
end Go.Proofs.Ytiolkeghgodggak
