/-
  desk.Show.
-/
import Derived.Test.YtaimgddhbkcikapDoorD3
import Derived.Lib.ItoaLen
import Derived.Deep.QuietTactic
import Derived.BigQuiet
import Derived.Shelf.Abstract
namespace Go.Proofs.YtaimgddhbkcikapDoor
open Go Go.RowKit Go.Sort Go.Shelf
open Plain
set_option maxRecDepth 100000

theorem lett_ok : ∀ k, k < 12 → ∀ c ∈ lettL k, 1 ≤ fieldN c ∧ fieldN c < 8 ∧ keyA (fieldN c - 1) = (c.toNat : Int) ∧ c.toNat < 128 := by decide
theorem below_drewN {B : Nat} {w w' : World} (h : Below B w w') (q : Nat) : Below B w (w'.drewN q) := ⟨h.os, h.tape, h.output, h.size, h.block⟩
theorem ShI.look {B : Nat} {wr : World} {N M It : Nat} {nm : ByteArray} {pos : Nat} {s : Sp} (h : ShI B wr N M It nm pos s) {c : UInt8} (h1 : 1 ≤ fieldN c) (h8 : fieldN c < 8) (hk : keyA (fieldN c - 1) = (c.toNat : Int)) :
    (Instr.lookup 36 (.map (some M)) (.int .i32 (c.toNat : Int)) false).run Tryd.prog wr = .ok (.pointer (some ⟨N, fieldN c, none⟩)) wr := by
  have := h.mp.look (j := fieldN c - 1) (by omega)
  rw [hk] at this
  rw [this]
  show Result.ok (Value.pointer (some ⟨N, 0 + (1 + (fieldN c - 1)), none⟩)) wr = _
  rw [show 0 + (1 + (fieldN c - 1)) = fieldN c by omega]
theorem cat3 (a b : List UInt8) : Value.string ((⟨a.toArray⟩ : ByteArray) ++ ((⟨#[32]⟩ : ByteArray) ++ (⟨b.toArray⟩ : ByteArray))) = bs (a ++ 32 :: b) := by
  show Value.string _ = Value.string _
  refine congrArg Value.string (ByteArray.ext ?_)
  simp
theorem word_len : ∀ k, k < 12 → (wordL k).length ≤ 8 ∧ (lettL k).length ≤ 4 := by decide
theorem Tryd.guardStep : Tryd.prog.eqGuardType Tryd.prog.depth 23 = false := by kernel_rfl
theorem neqP (x y : Sp) (w : World) : (binOp .neq 23 (.agg (stC x)) (.agg (stC y))).run Tryd.prog w = .ok (.bool (decide (x ≠ y))) w := by
  have u3 := Tryd.underlying3
  have a3 := Tryd.isAgg3
  have z3 := Tryd.sizeOf3
  have hS : Tryd.prog.underlying 23 = some (.struct (Tryd.prog.fieldsOf 23)) := by kernel_rfl
  have hp : Tryd.prog.stoodInHeld 23 = false := by kernel_rfl
  obtain ⟨x0, x1, x2, x3, x4, x5, x6, x7⟩ := x
  obtain ⟨y0, y1, y2, y3, y4, y5, y6, y7⟩ := y
  rw [run_neq_struct, show (10000 : Nat) = 9999 + 1 from rfl, run_equalIn_agg w 9999 23 _ _ hS hp]
  simp only [Program.fieldsOf, Tryd.underlying23]
  go_simp
  by_cases h0 : x0 ≠ y0
  · simp [h0]
  replace h0 := Decidable.not_not.1 h0
  by_cases h1 : x1 ≠ y1
  · simp [h0, h1]
  replace h1 := Decidable.not_not.1 h1
  by_cases h2 : x2 ≠ y2
  · simp [h0, h1, h2]
  replace h2 := Decidable.not_not.1 h2
  by_cases h3 : x3 ≠ y3
  · simp [h0, h1, h2, h3]
  replace h3 := Decidable.not_not.1 h3
  by_cases h4 : x4 ≠ y4
  · simp [h0, h1, h2, h3, h4]
  replace h4 := Decidable.not_not.1 h4
  by_cases h5 : x5 ≠ y5
  · simp [h0, h1, h2, h3, h4, h5]
  replace h5 := Decidable.not_not.1 h5
  by_cases h6 : x6 ≠ y6
  · simp [h0, h1, h2, h3, h4, h5, h6]
  replace h6 := Decidable.not_not.1 h6
  by_cases h7 : x7 ≠ y7
  · simp [h0, h1, h2, h3, h4, h5, h6, h7]
  replace h7 := Decidable.not_not.1 h7
  simp [h0, h1, h2, h3, h4, h5, h6, h7]
set_option maxHeartbeats 8000000 in
/-- Show, where the kind is one. -/
theorem show_ok (s : Sp) (hs : InSp s) (w : World) (hE : Env w.heap.size w) (k : Nat) (hkd : s.kd = k) (k1 : 1 ≤ k) (k2 : k ≤ 11) : Calls Tryd.prog 7 #[.agg (stC s)] w fun e w' =>
    e = .returned (.tuple #[bs (if left s then [] else (ends s).1), .int .i64 (if left s then 4 else 0)]) ∧ Below w.heap.size w w' := by
  obtain ⟨RL, hRL⟩ : ∃ RL, RL = (if left s then [] else (ends s).1) := ⟨_, rfl⟩
  obtain ⟨RE, hRE⟩ : ∃ RE : Int, RE = (if left s then 4 else 0) := ⟨_, rfl⟩
  have HRL := hid hRL
  have HRE := hid hRE
  rw [← hRL, ← hRE]
  clear hRL hRE
  obtain ⟨WA, hWA⟩ : ∃ WA, WA = w.alloc (.cells (stC s) 23) := ⟨_, rfl⟩
  have hNs : WA.heap.size = w.heap.size + 1 := by rw [hWA]; exact Array.size_push _
  have BA := hid (show Below w.heap.size w WA by rw [hWA]; exact (Below.refl _ _).alloc (Nat.le_refl _) _)
  have EA := hid (hE.on BA.out)
  have XA := hid (show BoxS WA w.heap.size s by rw [hWA]; unfold BoxS; show (w.heap.push _)[w.heap.size]? = _; simp)
  have KF := hid (fields_c w.heap.size 0 WA.drew)
  obtain ⟨kd, hkd'⟩ : ∃ kd : Int, kd = (k : Int) := ⟨_, rfl⟩
  have q1 : ¬ ((k : Int) < 1) := by omega
  have q2 : ¬ (11 < (k : Int)) := by omega
  have hk0 : (0 : Int) ≤ (k : Int) := by omega
  have hk12 : (k : Int) < 12 := by omega
  have a0 : WA.cell? ⟨w.heap.size, 0, none⟩ = some (.int .i64 (k : Int)) := by rw [← hkd]; exact XA.out.cell.1
  have g0 := (EA.out.wd k (by omega)).1
  have HKD := hid hkd
  have HEN := hid hE
  rw [hWA] at a0
  clear hE hkd'
  go_enter Tryd.func7, Tryd.ntmps7
  go_upto_region 3 with fail
  rw [← hWA] at a0 ⊢
  clear hkd hWA
  have g0d : WA.drew.cell? ⟨0, k * 2, none⟩ = some (bs (wordL k)) := g0
  have a0d : WA.drew.cell? ⟨w.heap.size, 0, none⟩ = some (.int .i64 (k : Int)) := a0
  go_region_held3 (fun w' => w'.cell? ⟨w.heap.size, 0, none⟩ = some (.int .i64 (k : Int)) ∧ w'.cell? ⟨0, k * 2, none⟩ = some (bs (wordL k))) (first | exact ⟨a0d, g0d⟩ | exact ⟨a05, g05⟩)
    ((go_at_call 12; refine KF.out.mono ?_; rintro e W5 ⟨rfl, hI, b5, hsz⟩; have B5 := hid (show Below WA.heap.size WA W5 from (below_drewN (Below.refl _ _) 1).trans b5); clear b5; have MI := hid hI; clear hI; have X5 := hid (XA.out.keep (B5.out.block _ XA.out.lt)); have E5 := hid (EA.out.on (B5.out.mono (Nat.le_of_lt XA.out.lt))); have a05 : W5.cell? ⟨w.heap.size, 0, none⟩ = some (.int .i64 (k : Int)) := by rw [← HKD.out]; exact X5.out.cell.1
      have g05 := (E5.out.wd k (by omega)).1; have SZ := hid hsz; clear hsz))
  have g15 := (E5.out.wd k (by omega)).2
  obtain ⟨nm, hnm⟩ : ∃ nm : ByteArray, nm = ⟨(lettL k).toArray⟩ := ⟨_, rfl⟩
  have HNM := hid hnm
  rw [show bs (lettL k) = .string nm by rw [hnm]] at g15
  have SZ2 := hid (show W5.heap.size = w.heap.size + 2 by rw [SZ.out]; show WA.heap.size + 1 = _; omega)
  have hsz2 := SZ2.out
  have MI5 := hid (show MpI W5 (w.heap.size + 1) w.heap.size 0 127 by rw [← hNs]; exact MI.out)
  obtain ⟨wl, hwl⟩ : ∃ wl : List UInt8, wl = wordL k := ⟨_, rfl⟩
  have HWL := hid hwl
  rw [← hwl]
  clear hnm hwl a0 a0d g0 g0d KF MI SZ g05
  go_wp2_with fail
  have hnsz : nm.size = (lettL k).length := by rw [HNM.out]; simp [ByteArray.size]
  have B0 := hid (show Below w.heap.size w W5 from BA.out.trans (B5.out.mono BA.out.size))
  have ST := hid (show ShI w.heap.size (W5.iter nm 0) w.heap.size (w.heap.size + 1) (w.heap.size + 2) nm 0 s from ⟨E5.out.on ((Below.refl _ _).alloc (by omega) _), X5.out.keep (by have := X5.out.lt; show (W5.heap.push _)[_]? = _; rw [Array.getElem?_push_lt this]; simp [this]), MI5.out.of_block (by have := MI5.out.lt; show (W5.heap.push _)[_]? = _; rw [Array.getElem?_push_lt this]; simp [this]), by show (W5.heap.push _)[_]? = _; rw [← hsz2]; simp, Nat.le_refl _, by omega, by omega⟩)
  clear g15 a05 B5 X5 E5 XA EA
  go_loopw [4] (fun v4 wr => ∃ (pos : Nat) (acc : List UInt8) (s' : Sp), v4 = bs acc ∧ Hid (ShI w.heap.size wr w.heap.size (w.heap.size + 1) (w.heap.size + 2) nm pos s' ∧ InSp s' ∧ runL ((lettL k).drop pos) s' acc = ends s ∧ pos ≤ (lettL k).length ∧ Below w.heap.size w wr ∧ acc.length ≤ 8 + 22 * pos)) (fun _ wr => nm.size - wr.iterPos (w.heap.size + 2))
  case atStart =>
    exact ⟨0, wl, s, rfl, hid ⟨ST.out, hs, by rw [HWL.out]; unfold ends; rw [HKD.out]; rfl, Nat.zero_le _, B0.out.alloc (by omega) _, by rw [HWL.out]; have := (word_len k (by omega)).1; omega⟩⟩
  case round =>
    obtain ⟨pos, acc, s', rfl, HR⟩ := hrel
    have hit := HR.out.1.it
    have hmes : wr.iterPos (w.heap.size + 2) = pos := by simp [World.iterPos, hit]
    have HM := hid hmes
    clear hmes
    by_cases hp : pos < (lettL k).length
    · have hps : pos < nm.size := by omega
      obtain ⟨c, hc⟩ : ∃ c, c = (lettL k)[pos] := ⟨_, rfl⟩
      have hcm : c ∈ lettL k := by rw [hc]; exact List.getElem_mem hp
      obtain ⟨f1, f8, fk, c8⟩ := lett_ok k (by omega) c hcm
      have hnc : (nm[pos]'hps) = c := by
        have := HNM.out
        subst this
        rw [hc]
        rfl
      have hnx : ∀ ty, (Instr.next (.pointer (some ⟨w.heap.size + 2, 0, none⟩)) true ty).run Tryd.prog wr = _ := fun ty => Lib.run_next_ascii_at wr (w.heap.size + 2) nm pos ty hit hps (by rw [hnc]; exact c8)
      rw [hnc] at hnx
      have H1 := hid (HR.out.1.next (pos + 1))
      have R1 := hid (show runL ((lettL k).drop (pos + 1)) (s'.out (fieldN c)) (acc ++ 32 :: Lib.itoa (s'.at (fieldN c))) = ends s by
        have := HR.out.2.2.1
        rw [List.drop_eq_getElem_cons hp, ← hc, runL] at this
        exact this)
      have IN := hid HR.out.2.1
      have BW := hid (Lib.below_iterAt HR.out.2.2.2.2.1 (k := w.heap.size + 2) (by omega) nm (pos + 1))
      obtain ⟨w1, hw1⟩ : ∃ w1, w1 = wr.iterAt (w.heap.size + 2) nm (pos + 1) := ⟨_, rfl⟩
      rw [← hw1] at H1 BW
      have hnx' : ∀ ty, (Instr.next (.pointer (some ⟨w.heap.size + 2, 0, none⟩)) true ty).run Tryd.prog wr = .ok (.tuple #[.bool true, .int .i64 pos, .int .i32 (c.toNat : Int)]) w1 := fun ty => by rw [hw1]; exact hnx ty
      obtain ⟨f, hf⟩ : ∃ f, f = fieldN c := ⟨_, rfl⟩
      have L1 : (Instr.lookup 36 (.map (some (w.heap.size + 1))) (.int .i32 (c.toNat : Int)) false).run Tryd.prog w1 = .ok (.pointer (some ⟨w.heap.size, f, none⟩)) w1 := by rw [hf]; exact H1.out.look f1 f8 fk
      rw [← hf] at f1 f8
      have C1 : w1.cell? ⟨w.heap.size, f, none⟩ = some (.int .i64 (s'.at f)) := H1.out.box.at f8
      have HF := hid hf
      have HC := hid hc
      have FK := hid fk
      obtain ⟨av, hav⟩ : ∃ av, av = s'.at f := ⟨_, rfl⟩
      have HAV := hid hav
      rw [← hav] at C1
      have hil : (Lib.itoa av).length ≤ 21 := Lib.itoa_length_le av (by rw [hav]; exact (IN.out f).1) (by rw [hav]; exact (IN.out f).2)
      have hal := HR.out.2.2.2.2.2
      have hl4 := (word_len k (by omega)).2
      have hcat : ¬ (9223372036854775807 < acc.length + (1 + (Lib.itoa av).length)) := by omega
      have hcat1 : ¬ (9223372036854775807 < 1 + (Lib.itoa av).length) := by omega
      have HIL := hid hil
      have HAL := hid hal
      clear hil hal
      have KI := hid (Tryd.strconv_Itoa av (by rw [hav]; exact (IN.out f).1) (by rw [hav]; exact (IN.out f).2) w1 (H1.out.env.tab.here))
      clear hnx hw1 hnc hcm hc fk hf hav hit HR hps
      go_wp2_with fail
      refine KI.out.mono ?_
      rintro e w2' ⟨rfl, q, os, hw2⟩
      obtain ⟨w2, hw2'⟩ : ∃ w2, w2 = grow (w1.drewN q) os := ⟨_, rfl⟩
      rw [← hw2'] at hw2
      subst hw2
      have B2 := hid (show Below w1.heap.size w1 w2' by rw [hw2']; exact below_grow q os)
      clear hw2'
      have H2 := hid (H1.out.grow B2.out)
      have L2 : (Instr.lookup 36 (.map (some (w.heap.size + 1))) (.int .i32 (c.toNat : Int)) false).run Tryd.prog w2' = .ok (.pointer (some ⟨w.heap.size, f, none⟩)) w2' := by
        rw [HF.out]; exact H2.out.look (by rw [← HF.out]; exact f1) (by rw [← HF.out]; exact f8) FK.out
      have C2 : w2'.cell? ⟨w.heap.size, f, none⟩ = some (.int .i64 av) := by rw [HAV.out]; exact H2.out.box.at f8
      have Z2 : w2'.frozen? ⟨w.heap.size, f, none⟩ = false := frozen_block H2.out.box f
      clear KI L1 C1
      go_wp2_with fail
      have hle : w.heap.size + 2 < w2'.heap.size := (Array.getElem?_eq_some_iff.1 H2.out.it).1
      refine ⟨⟨pos + 1, acc ++ 32 :: Lib.itoa av, s'.out f, cat3 _ _, hid ⟨H2.out.put f1 f8, IN.out.out f, by rw [HAV.out, HF.out]; exact R1.out, by omega, set_below (BW.out.trans (B2.out.mono BW.out.size)) (Nat.le_refl _), by have := HIL.out; have := HAL.out; simp only [List.length_append, List.length_cons]; omega⟩⟩, ?_⟩
      have e2 : (w2'.setCell ⟨w.heap.size, f, none⟩ (.int .i64 0)).iterPos (w.heap.size + 2) = pos + 1 := by
        unfold World.iterPos
        rw [set_other _ _ _ _ _ (by omega), H2.out.it]
      rw [e2, HM.out]
      omega
    · have hnx : ∀ ty, (Instr.next (.pointer (some ⟨w.heap.size + 2, 0, none⟩)) true ty).run Tryd.prog wr = _ := fun ty => Lib.run_next_end_at wr (w.heap.size + 2) nm pos ty hit (by omega)
      obtain ⟨hI, _, hrun, hpl, hbel, _⟩ := HR.out
      rw [List.drop_eq_nil_of_le (by omega), runL] at hrun
      obtain ⟨x0, x1, x2, x3, x4, x5, x6, x7⟩ := hI.box.cell
      have HE := hid hrun
      have HB := hid hbel
      have hkk : s'.kd = (k : Int) := by
        have e := congrArg (fun p => p.2.kd) hrun
        have e2 : (ends s).2.kd = s.kd := runL_kd _ _ _
        rw [← HKD.out, ← e2]
        exact e
      rw [hkk] at x0
      have HKK := hid hkk
      obtain ⟨lf, hlf⟩ : ∃ lf : Bool, lf = left s := ⟨_, rfl⟩
      have HL := hid hlf
      have N1 : ∀ wr, (binOp .neq 23 (.agg #[.int .i64 (k : Int), .int .i64 s'.wh, .int .i64 s'.it, .int .i64 s'.ct, .int .i64 s'.lf, .int .i64 s'.id, .int .i64 s'.lb, .int .i64 s'.ky]) (.agg #[.int .i64 (k : Int), .int .i64 0, .int .i64 0, .int .i64 0, .int .i64 0,   .int .i64 0, .int .i64 0, .int .i64 0])).run Tryd.prog wr = .ok (.bool lf) wr := by
        intro wr
        have := neqP s' ⟨k, 0, 0, 0, 0, 0, 0, 0⟩ wr
        rw [show stC s' = #[.int .i64 (k : Int), .int .i64 s'.wh, .int .i64 s'.it, .int .i64 s'.ct, .int .i64 s'.lf, .int .i64 s'.id, .int .i64 s'.lb, .int .i64 s'.ky] by show #[Value.int .i64 s'.kd, _, _, _, _, _, _, _] = _; rw [hkk]] at this
        rw [hlf, this]
        unfold left
        rw [← hrun, HKD.out]
      have HED := hid (show acc = (ends s).1 by rw [← hrun])
      clear HR hrun hbel hI hpl hkk hlf
      cases lf
      · go_wp2_with fail
        go_ret2
        refine ⟨?_, HB.out⟩
        rw [show RL = acc by rw [HRL.out, ← HL.out, HED.out]; rfl, show RE = 0 by rw [HRE.out, ← HL.out]; rfl]
        rfl
      · go_wp2_with fail
        go_ret2
        refine ⟨?_, HB.out⟩
        rw [show RL = [] by rw [HRL.out, ← HL.out]; rfl, show RE = 4 by rw [HRE.out, ← HL.out]; rfl]
        rfl
/-- Show, whatever the step. -/
theorem show_c (s : Sp) (hs : InSp s) (w : World) (hE : Env w.heap.size w) : Calls Tryd.prog 7 #[.agg (stC s)] w fun e w' =>
    e = .returned (.tuple #[bs (shL s), .int .i64 (shE s)]) ∧ Below w.heap.size w w' := by
  by_cases hb : badK s = true
  · have e1 : shL s = [] := by unfold shL; rw [if_pos hb]
    have e2 : shE s = 3 := by unfold shE; rw [if_pos hb]
    rw [e1, e2]
    obtain ⟨sk, s1, s2, s3, s4, s5, s6, s7⟩ := s
    have hk : sk < 1 ∨ (¬ sk < 1 ∧ 11 < sk) := by
      simp [badK] at hb
      omega
    clear hb e1 e2 hs hE
    rcases hk with hk | ⟨hk, hk2⟩
    · go_enter Tryd.func7, Tryd.ntmps7
      go_wp2
      go_ret2
      exact ⟨rfl, (Below.refl _ _).alloc (Nat.le_refl _) _⟩
    · go_enter Tryd.func7, Tryd.ntmps7
      go_wp2
      go_ret2
      exact ⟨rfl, (Below.refl _ _).alloc (Nat.le_refl _) _⟩
  · have hb' : badK s = false := by simpa using hb
    have hk : 1 ≤ s.kd ∧ s.kd ≤ 11 := by simp [badK] at hb'; omega
    refine (show_ok s hs w hE s.kd.toNat (by omega) (by omega) (by omega)).mono fun e w' h => ?_
    unfold shL shE
    rw [if_neg hb, if_neg hb]
    exact h
end Go.Proofs.YtaimgddhbkcikapDoor
