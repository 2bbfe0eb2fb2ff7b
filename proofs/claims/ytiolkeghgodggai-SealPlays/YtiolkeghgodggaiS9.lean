/-
  seal.Play.
-/
import Derived.Test.YtiolkeghgodggaiS8
namespace Go.Proofs.Ytiolkeghgodggai.Se
open Go.RowKit Go.Shelf Go.Sort Go.Lib

/-- What playing moves leaves: the same of the program and of the document. -/
def PlayP (R : List RL) (w : World) (e : Ending) (w' : World) : Prop :=
  ∃ q c D, e = .returned (.tuple #[.slice q D.length c, .int .i64 (Plain.sealE (R.map RL.x) : Nat)]) ∧ D.map RD.d = Plain.sealV (R.map RL.x) ∧ An w' q D ∧ Below w.heap.size w w'
theorem playP_no {R : List RL} {n : Nat} (hn : R.length = n) (h : 300 < n) (w : World) (w' : World) (b : Below w.heap.size w w') : PlayP R w (.returned (.tuple #[.slice none 0 0, .int .i64 1])) w' := by
  have h1 : 300 < (R.map RL.x).length := by rw [List.length_map, hn]; exact h
  refine ⟨none, 0, [], ?_, ?_, ⟨Enc.Holds.nil _ _, fun r hr => (nomatch hr)⟩, b⟩
  · unfold Plain.sealE; rw [if_pos h1]; rfl
  · unfold Plain.sealV; rw [if_pos h1]; rfl
theorem playP_yes {R : List RL} {n : Nat} (hn : R.length = n) (h : ¬ 300 < n) {w w' : World} (b : Below w.heap.size w w') {q : Option Addr} {c : Nat} {D : List RD} (hD : D.map RD.d = Plain.mailF Plain.Off.nil (R.map RL.x)) (ha : An w' q D) : PlayP R w (.returned (.tuple #[.slice q n c, .int .i64 0])) w' := by
  have h1 : ¬ 300 < (R.map RL.x).length := by rw [List.length_map, hn]; exact h
  have h2 : D.length = n := by
    have := congrArg List.length hD
    rw [List.length_map, Plain.mailF_len, List.length_map, hn] at this
    exact this
  refine ⟨q, c, D, ?_, ?_, ha, b⟩
  · unfold Plain.sealE; rw [if_neg h1, h2]; rfl
  · unfold Plain.sealV; rw [if_neg h1]; exact hD

set_option maxHeartbeats 4000000 in
set_option maxRecDepth 100000 in
theorem play_c (p : Option Addr) (n cap : Nat) (R : List RL) (hbig : n ≤ 9223372036854775807) (w : World) (hn : R.length = n) (hp : Mv w p R) :
    Calls Try.prog 13 #[.slice p n cap] w fun e w' => PlayP R w e w' := by
  by_cases h300 : 300 < n
  · have hz : (300 : Int) < (n : Int) := by omega
    have P0 := hid (playP_no hn h300 w w (Below.refl _ _))
    clear hp hn
    go_enter Try.func13, Try.ntmps13
    go_wp2
    go_ret2
    exact P0.out
  have hz : ¬ (300 : Int) < (n : Int) := by omega
  have hmk : ∀ W : World, (Instr.makeSlice 39 (.int .i64 (n : Int)) (.int .i64 (n : Int))).run Try.prog W = .ok (.slice (some ⟨W.heap.size, 0, none⟩) n n) (W.alloc (.cells (madeCells #[.int .i64 0, .int .i64 0, .int .i64 0, .slice none 0 0] (n * 4)) 44)) := fun W => by
    obtain ⟨i0, hi, hz0, hz1, hz2⟩ := info_parts Try.infoOd
    have := run_make (P := Try.prog) W 39 44 i0 _ Try.underlying39 hi hz0 .i64 .i64 (n : Int) (n : Int) (by omega) (Int.le_refl _) (by rw [hz2]; omega) (by omega)
    rw [hz1, show (Value.agg #[.int .i64 0, .int .i64 0, .int .i64 0, .slice none 0 0]).cells = #[.int .i64 0, .int .i64 0, .int .i64 0, .slice none 0 0] from rfl] at this
    simpa using this
  have HP := hid hp
  have HN := hid hn
  have ST := hid (PlS.start w n)
  clear hp hn
  go_enter Try.func13, Try.ntmps13
  go_wp2
  clear hmk
  go_loopg [6, 7, 16] n (fun gg _ _ s16 wx => ∃ k : Nat, k ≤ n ∧ n - k ≤ gg ∧ s16 = .int .i64 k ∧ Aside (∃ vo vm P D, PlS w wx vo vm P (Plain.officeF Plain.Off.nil ((R.map RL.x).take k)) D n k ∧ D.map RD.d = Plain.mailF Plain.Off.nil ((R.map RL.x).take k)))
  case atStart => exact ⟨0, Nat.zero_le _, by omega, rfl, (show Aside _ from ⟨_, _, _, _, ST.out, rfl⟩)⟩
  case round =>
    obtain ⟨k, hkk, hg, rfl, A⟩ := hrel
    clear ST
    by_cases hlt : k < n
    · have hltz : (k : Int) < (n : Int) := by omega
      have hll : k < R.length := by rw [HN.out]; exact hlt
      have hlm : k < (R.map RL.x).length := by rw [List.length_map]; exact hll
      obtain ⟨vo, vm, P, D, hi, hD⟩ := A.out
      have HI0 := hid hi
      have HD := hid hD
      clear hi hD A
      have HMv := HP.out.grow (show Below w.heap.size w wr from HI0.out.be)
      obtain ⟨b, off, rfl, hb, hc⟩ := holdsL HMv.hd (by omega)
      obtain ⟨c0, c1, c2, c3, c4⟩ := hc k hll
      have hy := HMv.bs _ (getD_mem R default hll)
      clear hc HMv
      have RT := hid (Plain.officeF_take Plain.Off.nil (R.map RL.x) k hlm)
      have PT := hid (Plain.mailF_take Plain.Off.nil (R.map RL.x) k hlm)
      rw [getD_map RL.x R default default hll] at RT PT
      have hgo := Plain.Good.nil.run ((R.map RL.x).take k)
      have hpl := Plain.posted_le Plain.Off.nil ((R.map RL.x).take k)
      have hPl : P.length ≤ 300 := by
        have h1 := HI0.out.of.len
        have h2 : ((R.map RL.x).take k).length ≤ k := by rw [List.length_take]; omega
        have h3 : Plain.Off.nil.posted.length = 0 := rfl
        omega
      have hDl : D.length = k := by
        have := congrArg List.length HD.out
        rw [List.length_map, Plain.mailF_len, List.length_take] at this
        omega
      clear hpl
      have HY := hid (show By w.heap.size wr (R.getD k default).p (R.getD k default).c (R.getD k default).x.data from (HP.out.bs _ (getD_mem R default hll)).keep (Kb.of_below HI0.out.be))
      clear hy
      generalize R.getD k default = r at c0 c1 c2 c3 c4 RT PT HY
      generalize Plain.officeF Plain.Off.nil ((R.map RL.x).take k) = o at HI0 RT PT hgo
      generalize Plain.mailF Plain.Off.nil ((R.map RL.x).take k) = s at HD PT
      have HIa := hid (HI0.out.grow (wy := wr.alloc (boxL r)) ((Below.refl _ _).alloc (Nat.le_refl _) _))
      have K := do_c (w.heap.size + 1) 0 k winS vo vm P o hgo (by omega) (by omega) r w.heap.size (wr.alloc (boxL r)) HIa.out.of (HY.out.grow ((Below.refl _ _).alloc (Nat.le_refl _) _))
      clear HI0 HY hgo
      go_wp2_with fail
      refine K.mono ?_
      rintro e W3 ⟨⟨⟨tc, ti, ts, td⟩, tp, tq⟩, vo', vm', P', rfl, hT, hO, hK, hY, hN⟩
      have HI3 := hid (HIa.out.order hO hK hN)
      have HT := hid hT
      have HY := hid hY
      clear hT hO hK hY hN K HIa c0 c1 c2 c3 c4
      have y0 := HI3.out.tl.cell (i := k * 4) (by omega)
      have y1 := HI3.out.tl.cell (i := k * 4 + 1) (by omega)
      have y2 := HI3.out.tl.cell (i := k * 4 + 2) (by omega)
      have y3 := HI3.out.tl.cell (i := k * 4 + 3) (by omega)
      have z0 := HI3.out.tl.frozen (k * 4)
      have z1 := HI3.out.tl.frozen (k * 4 + 1)
      have z2 := HI3.out.tl.frozen (k * 4 + 2)
      have z3 := HI3.out.tl.frozen (k * 4 + 3)
      go_wp2
      obtain ⟨W6, hW6⟩ : ∃ W6, W6 = (((W3.setCell ⟨w.heap.size, k * 4, none⟩ (.int .i64 (tc : Nat))).setCell ⟨w.heap.size, k * 4 + 1, none⟩ (.int .i64 ti)).setCell ⟨w.heap.size, k * 4 + 2, none⟩ (.int .i64 ts)).setCell ⟨w.heap.size, k * 4 + 3, none⟩ (.slice tp td.length tq) := ⟨_, rfl⟩
      rw [← hW6]
      have F6 := hid (show PlS w W6 vo' vm' P' (Plain.leS o r.x) (D ++ [⟨⟨tc, ti, ts, td⟩, tp, tq⟩]) n (k + 1) by rw [hW6]; exact HI3.out.told k hDl ⟨⟨tc, ti, ts, td⟩, tp, tq⟩ HY.out)
      clear hW6 y0 y1 y2 y3 z0 z1 z2 z3 HI3
      go_roundg (n - (k + 1))
      case measure => omega
      case rel =>
        refine ⟨k + 1, by omega, by omega, by go_num, (show Aside _ from ⟨vo', vm', P', D ++ [⟨⟨tc, ti, ts, td⟩, tp, tq⟩], ?_, ?_⟩)⟩
        · rw [RT.out]; exact F6.out
        · rw [PT.out, List.map_append, HD.out, ← HT.out]; rfl
    · have hltz : ¬ (k : Int) < (n : Int) := by omega
      have ek : k = n := by omega
      have hall : (R.map RL.x).take k = R.map RL.x := List.take_of_length_le (by rw [List.length_map, HN.out]; omega)
      obtain ⟨vo, vm, P, D, hi, hD⟩ := A.out
      rw [hall] at hi hD
      have hDl : D.length = n := by
        have := congrArg List.length hD
        rw [List.length_map, Plain.mailF_len, List.length_map, HN.out] at this
        exact this
      have HE := hid (playP_yes (c := n) HN.out h300 hi.be hD ⟨hi.holds hDl, fun r hr => (hi.bs r hr).top⟩)
      clear hi hD A hall hDl
      go_wp2
      go_ret2
      exact HE.out
end Go.Proofs.Ytiolkeghgodggai.Se
