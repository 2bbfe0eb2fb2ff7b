/-
  mailed, sealSure.
-/
import Derived.Test.YtiolkeghgodggaiLr
import Derived.Test.YtiolkeghgodggaiS9
import Derived.Test.YtiolkeghgodggaiSxk
namespace Go.Proofs.Ytiolkeghgodggai.Se
open Go.RowKit Go.Shelf Go.Sort Go.Lib

/-- A copy of moves in a row of its own. -/
theorem copy_moves {w : World} {q : Option Addr} {n c : Nat} {Rs : List RL} (h : Mv w q Rs) (hn : Rs.length = n) (hnil : q = none → c = 0) (hb : n ≤ 300) :
    ∃ p' c' W, (Builtin.append_ #[38, 38] 38 #[.slice none 0 0, .slice q n c]).run Try.prog w = .ok (.slice p' n c') W ∧ Mv W p' Rs ∧ Below w.heap.size w W := by
  obtain ⟨j0, ji, jz0, jz1, jz2⟩ := info_parts Try.infoLe
  obtain ⟨v', W, h1, h2, h3⟩ := encL.app (B := w.heap.size) (n := 0) (l := []) (v := .slice none 0 0) Try.underlying38 ji jz0 jz1 jz2 rfl (World.ownsRow_nil _ _ _ _) h.hd hn hnil (by omega) (by omega) (Nat.le_refl _)
  rw [List.nil_append, Nat.zero_add] at h2
  obtain ⟨p', c', rfl, hh, _, _⟩ := encL.owns h2 hn
  have be : Below w.heap.size w W := ⟨h3.os, h3.tape, h3.output, h3.size, fun k hk => h3.block k hk (by simp [Value.ownBlock])⟩
  exact ⟨p', c', W, h1, ⟨hh, fun r hr => ((h.bs r hr).grow be).top⟩, be⟩

set_option maxHeartbeats 1000000 in
set_option maxRecDepth 100000 in
theorem mailed_c (q : Option Addr) (n c : Nat) (Rs : List RL) (hb : n ≤ 300) (w : World) (hn : Rs.length = n) (hnil : q = none → c = 0) (h : Mv w q Rs) :
    Calls Try.prog 17 #[.slice q n c] w fun e w' => ∃ p' c' D, e = .returned (.tuple #[.slice p' n c', .bool true]) ∧ D.map RD.d = Plain.mailF Plain.Off.nil (Rs.map RL.x) ∧ An w' p' D ∧ Below w.heap.size w w' := by
  obtain ⟨p1, c1, W1, hrun, hM, b1⟩ := copy_moves h hn hnil hb
  have K := play_c p1 n c1 Rs (by omega) W1 hn hM
  have hE : Plain.sealE (Rs.map RL.x) = 0 := by unfold Plain.sealE; rw [if_neg (by rw [List.length_map, hn]; omega)]
  have HV := hid (show Plain.sealV (Rs.map RL.x) = Plain.mailF Plain.Off.nil (Rs.map RL.x) by unfold Plain.sealV; rw [if_neg (by rw [List.length_map, hn]; omega)])
  have RUN := hid hrun
  have HN := hid hn
  have B1 := hid b1
  clear h hnil hrun hM hn b1
  go_enter Try.func17, Try.ntmps17
  go_wp2_with (first | (at_builtin; refine wpList_app _ _ 38 RUN.out (by rfl) (by rfl) (by rfl) (by rfl) (by rfl) ?_) | fail)
  refine K.mono ?_
  rintro e W2 ⟨p2, c2, D, rfl, hD, hA, b2⟩
  rw [hE]
  have HD := hid (hD.trans HV.out)
  have HA := hid hA
  have B2 := hid (B1.out.trans (b2.mono B1.out.size))
  have hl : D.length = n := by
    have := congrArg List.length HD.out
    rw [List.length_map, Plain.mailF_len, List.length_map, HN.out] at this
    exact this
  rw [hl]
  clear hE hD hA b2 K hl
  have e1 : ((n : Int) == (n : Int)) = true := by simp
  go_wp2
  go_ret2
  exact ⟨p2, c2, D, rfl, HD.out, HA.out, B2.out⟩

/-- The two moves of sealSure. -/
abbrev sureR (b : Nat) : List RL := [⟨⟨1, 0, 0, 0, [7]⟩, some ⟨b, 0, none⟩, 1⟩, ⟨⟨2, 0, 0, 0, []⟩, none, 0⟩]
theorem sure_mail (b : Nat) : Plain.mailF Plain.Off.nil ((sureR b).map RL.x) = [⟨0, 0, 1, []⟩, ⟨0, 0, 1, [7]⟩] :=
  (show Plain.mailF Plain.Off.nil [⟨1, 0, 0, 0, [7]⟩, ⟨2, 0, 0, 0, []⟩] = [⟨0, 0, 1, []⟩, ⟨0, 0, 1, [7]⟩] by decide)
theorem By.seven (B : Nat) (w : World) : By B (w.alloc (.cells #[.int .u8 7] 5)) (some ⟨w.heap.size, 0, none⟩) 1 [7] := by
  refine ⟨by decide, by decide, (fun e => by cases e), fun _ => ⟨w.heap.size, 0, rfl, by simp, .inr ⟨_, (0, 0), Deep.blk_alloc_new _ _⟩, fun j hj => ?_⟩⟩
  have hj1 : j < 1 := hj
  have e : j = 0 := by omega
  subst e
  rw [World.cell?_alloc_at _ _ _ _ rfl]; rfl
theorem sure_moves (w : World) : Mv ((w.alloc (.cells #[.int .u8 7] 5)).alloc (.cells #[.int .i64 1, .int .i64 0, .int .i64 0, .int .i64 0, .slice (some ⟨w.heap.size, 0, none⟩) 1 1, .int .i64 2, .int .i64 0, .int .i64 0, .int .i64 0, .slice none 0 0] 53)) (some ⟨w.heap.size + 1, 0, none⟩) (sureR w.heap.size) := by
  have hs : (w.alloc (.cells #[.int .u8 7] 5)).heap.size = w.heap.size + 1 := by simp
  have b2 : Below (w.alloc (.cells #[.int .u8 7] 5)).heap.size (w.alloc (.cells #[.int .u8 7] 5)) ((w.alloc (.cells #[.int .u8 7] 5)).alloc (.cells #[.int .i64 1, .int .i64 0, .int .i64 0, .int .i64 0, .slice (some ⟨w.heap.size, 0, none⟩) 1 1, .int .i64 2, .int .i64 0, .int .i64 0, .int .i64 0, .slice none 0 0] 53)) := (Below.refl _ _).alloc (Nat.le_refl _) _
  refine ⟨fun _ => ⟨w.heap.size + 1, 0, rfl, by simp, fun j u hu => ?_⟩, fun r hr => ?_⟩
  · rw [Nat.zero_add, ← hs, World.cell?_alloc_at _ _ _ _ rfl, ← hu]
    have hj : j < 10 := by
      rcases Nat.lt_or_ge j 10 with x | x
      · exact x
      · rw [List.getElem?_eq_none (by rw [encL.vals_len]; exact x)] at hu; cases hu
    have : j = 0 ∨ j = 1 ∨ j = 2 ∨ j = 3 ∨ j = 4 ∨ j = 5 ∨ j = 6 ∨ j = 7 ∨ j = 8 ∨ j = 9 := by omega
    rcases this with rfl | rfl | rfl | rfl | rfl | rfl | rfl | rfl | rfl | rfl <;> rfl
  · simp only [sureR, List.mem_cons, List.not_mem_nil, or_false] at hr
    rcases hr with rfl | rfl
    · exact ((By.seven 0 w).grow b2).top
    · exact By.nil _ _

set_option maxHeartbeats 2000000 in
set_option maxRecDepth 100000 in
theorem sure_c (w : World) : Calls Try.prog 18 #[] w fun e w' => e = .returned (.bool true) ∧ Below w.heap.size w w' := by
  have hm := sure_moves w
  have K := mailed_c (some ⟨w.heap.size + 1, 0, none⟩) 2 2 (sureR w.heap.size) (by omega) _ rfl (fun e => by cases e) hm
  rw [sure_mail] at K
  clear hm
  have BB := hid (show Below w.heap.size w ((w.alloc (.cells #[.int .u8 7] 5)).alloc (.cells #[.int .i64 1, .int .i64 0, .int .i64 0, .int .i64 0, .slice (some ⟨w.heap.size, 0, none⟩) 1 1, .int .i64 2, .int .i64 0, .int .i64 0, .int .i64 0, .slice none 0 0] 53)) from ((Below.refl _ _).alloc (Nat.le_refl _) _).alloc (by simp) _)
  go_enter Try.func18, Try.ntmps18
  go_wp2_with fail
  refine K.mono ?_
  rintro e W2 ⟨p2, c2, D, rfl, hD, hA, b2⟩
  have B2 := hid (BB.out.trans (b2.mono BB.out.size))
  clear K BB b2
  match D, hD, hA with
  | [⟨d0, p0, q0⟩, ⟨d1, p1, q1⟩], hD, hA =>
    simp only [List.map_cons, List.map_nil, List.cons.injEq, and_true] at hD
    obtain ⟨rfl, rfl⟩ := hD
    obtain ⟨b, off, rfl, hb, hc⟩ := holdsD hA.hd (by simp)
    obtain ⟨_, _, x2, _⟩ := hc 0 (by simp)
    obtain ⟨_, _, _, y3⟩ := hc 1 (by simp)
    have x2 : W2.cell? ⟨b, off + 2, none⟩ = some (.int .i64 1) := x2
    have y3 : W2.cell? ⟨b, off + 7, none⟩ = some (.slice p1 1 q1) := y3
    have yb : By W2.heap.size W2 p1 q1 [7] := hA.bs ⟨⟨0, 0, 1, [7]⟩, p1, q1⟩ (by simp)
    have KS := sameB_any (n := 1) (W2.alloc (.cells #[.int .u8 7] 5)) rfl (yb.grow ((Below.refl _ _).alloc (Nat.le_refl _) _)) (By.seven 0 W2)
    clear hc hA yb
    have BF := hid (B2.out.alloc (by have := B2.out.size; omega) (.cells #[.int .u8 7] 5))
    go_wp2_with fail
    refine KS.mono ?_
    rintro e W4 ⟨rfl, q, rfl⟩
    go_wp2
    go_ret
    exact ⟨rfl, below_drewN BF.out q⟩
end Go.Proofs.Ytiolkeghgodggai.Se
