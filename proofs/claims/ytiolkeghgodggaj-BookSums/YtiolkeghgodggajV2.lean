/-
  booked: what calls come to.
-/
import Derived.Test.YtiolkeghgodggajV1
import Derived.Test.YtiolkeghgodggajY9
import Derived.Test.YtiolkeghgodggajHk
namespace Go.Proofs.Ytiolkeghgodggaj.Bo
open Go.RowKit Go.Shelf Go.Sort

theorem one_row (w : World) : encC.Holds (w.alloc (.cells #[.int .i64 1, .int .i64 0, .int .i64 3, .int .i64 2, .int .i64 0, .int .i64 2, .int .i64 3, .int .i64 0, .int .i64 0] 52)) (some ⟨w.heap.size, 0, none⟩) Plain.oneL := fun _ => by
  refine ⟨w.heap.size, 0, rfl, by simp, fun j u hu => ?_⟩
  rw [World.cell?_alloc_at _ _ _ _ (by rfl), Nat.zero_add]
  have e : encC.vals Plain.oneL = [.int .i64 1, .int .i64 0, .int .i64 3, .int .i64 2, .int .i64 0, .int .i64 2, .int .i64 3, .int .i64 0, .int .i64 0] := rfl
  rw [e] at hu
  simpa using hu

set_option maxHeartbeats 8000000 in
set_option maxRecDepth 100000 in
theorem booked_c (p : Option Addr) (n cp : Nat) (cs : List Plain.Ca) (top : Int) (tk : Nat) (hc : 0 ≤ top ∧ top ≤ 1048576) (ht : 1 ≤ tk ∧ tk ≤ 8) (hl : n ≤ 300) (w : World) (hn : cs.length = n) (hp : encC.Holds w p cs) (hnil : p = none → cp = 0) :
    Calls Try.prog 18 #[.int .i64 top, .int .i64 (tk : Int), .slice p n cp] w fun e w' => ∃ q c D, e = .returned (.tuple #[.slice q n c, .bool true]) ∧ List.map RU.d D = Plain.bookF (Plain.Bk.new 3 top tk) cs ∧ An w' q D ∧ Below w.heap.size w w' := by
  obtain ⟨j0, ji, jz0, jz1, jz2⟩ := info_parts Try.infoCa
  obtain ⟨v', W1, hrun, hown, hgr⟩ := encC.app (B := w.heap.size) (n := 0) (l := []) (v := .slice none 0 0) Try.underlying39 ji jz0 jz1 jz2 rfl (World.ownsRow_nil _ _ _ _) hp hn hnil (by omega) (by omega) (Nat.le_refl _)
  rw [List.nil_append, Nat.zero_add] at hown
  obtain ⟨p1, c1, rfl, hp1, _, _⟩ := encC.owns hown hn
  have b1 : Below w.heap.size w W1 := ⟨hgr.os, hgr.tape, hgr.output, hgr.size, fun k hk => hgr.block k hk (by simp [Value.ownBlock])⟩
  have K := play_c p1 n c1 3 top (tk : Int) cs (by omega) W1 hn hp1
  have hE : Plain.bookE 3 top (tk : Int) cs = 0 := Plain.bookE_ok hc ht (by omega)
  have hV := Plain.bookV_ok hc ht (show cs.length ≤ 300 by omega)
  have RUN := hid hrun
  have HB1 := hid b1
  have HE := hid hE
  have HV := hid hV
  have HN := hid hn
  have HP := hid hp
  have OK0 := hid (Plain.Ok.new (n := 3) hc (show 0 < tk by omega))
  clear hrun hown hgr hp1 b1 hE hV hn hp hnil ji jz0 jz1 jz2
  go_enter Try.func18, Try.ntmps18
  go_wp2_with (first | (at_builtin; refine wpList_app _ _ 39 RUN.out (by rfl) (by rfl) (by rfl) (by rfl) (by rfl) ?_) | fail)
  refine K.mono ?_
  rintro e W2 ⟨q, c, D, rfl, hD, hA, hb⟩
  rw [HE.out]
  have hDl : D.length = n := by
    have := congrArg List.length hD
    rw [List.length_map, HV.out, Plain.bookF_len, HN.out] at this
    exact this
  have HD := hid (hD.trans HV.out)
  have HA := hid hA
  have HB2 := hid (HB1.out.trans (hb.mono HB1.out.size))
  have HDL := hid hDl
  rw [hDl]
  clear K hD hA hb HV HE hDl
  have hnn : ((n : Int) != (n : Int)) = false := by simp
  go_wp2
  clear hnn
  go_loopg [10] n (fun gg s10 wx => ∃ k : Nat, k ≤ n ∧ n - k ≤ gg ∧ s10 = .int .i64 k ∧ Aside (Below W2.heap.size W2 wx))
  case atStart => exact ⟨0, Nat.zero_le _, by omega, rfl, (show Aside _ from Below.refl _ _)⟩
  case round =>
    obtain ⟨k, hkk, hg, rfl, I⟩ := hrel
    by_cases hlt : k < n
    · have hltz : (k : Int) < (n : Int) := by omega
      have hk1 : k < cs.length := by rw [HN.out]; exact hlt
      have hk2 : k < D.length := by rw [HDL.out]; exact hlt
      obtain ⟨b1, o1, rfl, _, g1⟩ := holdsC (HP.out.grow (HB2.out.trans (I.out.mono HB2.out.size))) (by omega)
      obtain ⟨b2, o2, rfl, _, g2⟩ := holdsU (HA.out.grow I.out).hd (by omega)
      obtain ⟨x0, x1, x2⟩ := g1 k hk1
      obtain ⟨y0, y1, y2⟩ := g2 k hk2
      have HI := hid I.out
      have hgr3 : (cs.getD k default).kind = 3 → (D.getD k default).d.grants.length = 3 := fun h3 => by
        rw [← getD_map RU.d D default default hk2, HD.out]
        exact Plain.bookF_round OK0.out cs k hk1 h3
      clear I g1 g2
      generalize cs.getD k default = xc at *
      generalize D.getD k default = yd at *
      by_cases h3 : xc.kind = 3
      · have h33 := hgr3 h3
        rw [h33] at y1
        rw [h3] at x0
        clear hgr3 h33 h3
        go_wp2
        go_roundg (n - (k + 1))
        case measure => omega
        case rel => exact ⟨k + 1, by omega, by omega, by go_num, (show Aside _ from HI.out)⟩
      · have g3 : (xc.kind == 3) = false := by simpa using h3
        clear hgr3 h3
        go_wp2
        go_roundg (n - (k + 1))
        case measure => omega
        case rel => exact ⟨k + 1, by omega, by omega, by go_num, (show Aside _ from HI.out)⟩
    · have hltz : ¬ (k : Int) < (n : Int) := by omega
      have HI := hid I.out
      clear I
      obtain ⟨W3, hW3⟩ : ∃ W3, W3 = wr.alloc (.cells #[.int .i64 1, .int .i64 0, .int .i64 3, .int .i64 2, .int .i64 0, .int .i64 2, .int .i64 3, .int .i64 0, .int .i64 0] 52) := ⟨_, rfl⟩
      have B3 := hid (show Below wr.heap.size wr W3 by rw [hW3]; exact (Below.refl _ _).alloc (Nat.le_refl _) _)
      have K2 := play_c (some ⟨wr.heap.size, 0, none⟩) 3 3 1 5 1 Plain.oneL (by omega) W3 rfl (by rw [hW3]; exact one_row wr)
      have HW3 := hid hW3
      clear hW3
      go_wp2_with fail
      have eW : wr.alloc (.cells #[.int .i64 1, .int .i64 0, .int .i64 3, .int .i64 2, .int .i64 0, .int .i64 2, .int .i64 3, .int .i64 0, .int .i64 0] 52) = W3 := HW3.out.symm
      rw [eW]
      refine K2.mono ?_
      rintro e W4 ⟨q4, c4, D4, rfl, hD4, hA4, hb4⟩
      rw [Plain.one_told] at hD4
      have hE4 : Plain.bookE 1 5 1 Plain.oneL = 0 := by decide
      rw [hE4]
      have hl4 : D4.length = 3 := by
        have := congrArg List.length hD4
        simpa using this
      have h2d : (D4.getD 2 default).d = ⟨0, [2], 3⟩ := by rw [← getD_map RU.d D4 default default (by omega), hD4]; rfl
      obtain ⟨b4, o4, rfl, _, g4⟩ := holdsU hA4.hd (by omega)
      obtain ⟨y0, y1, y2⟩ := g4 2 (by omega)
      have yb := hA4.bs _ (getD_mem D4 default (show 2 < D4.length by omega))
      generalize D4.getD 2 default = z at *
      obtain ⟨zd, zp, zq⟩ := z
      dsimp only at h2d
      subst h2d
      dsimp only at y0 y1 y2 yb
      rw [hl4]
      have B4 := hid ((HI.out.trans (B3.out.mono HI.out.size)).trans (hb4.mono (Nat.le_trans HI.out.size B3.out.size)))
      clear g4 hD4 hA4 hl4 hE4 K2 eW HW3 B3
      obtain ⟨W5, hW5⟩ : ∃ W5, W5 = W4.alloc (.cells #[.int .i64 2] 3) := ⟨_, rfl⟩
      have b5 : Below W4.heap.size W4 W5 := by rw [hW5]; exact (Below.refl _ _).alloc (Nat.le_refl _) _
      have KS := keep.same_any (.slice zp 1 zq) (.slice (some ⟨W4.heap.size, 0, none⟩) 1 1) [2] [2] (by simp) W5 (((yb.wants.grow b5).seg zq).1) (.inr ⟨W4.heap.size, 0, 1, rfl, fun j hj => by
        have : j = 0 := by simpa using hj
        subst this
        rw [hW5, World.cell?_alloc_at _ _ _ _ rfl]; rfl⟩)
      rw [decide_eq_true rfl, hW5] at KS
      have HX := hid (fun qq => show ∃ q' c' D', Ending.returned (Value.tuple #[.slice q n c, .bool true]) = .returned (.tuple #[.slice q' n c', .bool true]) ∧ List.map RU.d D' = Plain.bookF (Plain.Bk.new 3 top tk) cs ∧ An (W5.drewN qq) q' D' ∧ Below w.heap.size w (W5.drewN qq) from
        ⟨q, c, D, rfl, HD.out, HA.out.grow ((B4.out.trans (b5.mono B4.out.size)).trans (below_drewN (Below.refl _ _) qq)), HB2.out.trans (((B4.out.trans (b5.mono B4.out.size)).trans (below_drewN (Below.refl _ _) qq)).mono HB2.out.size)⟩)
      rw [hW5] at HX
      clear b5 hW5 yb B4
      go_wp2_with fail
      refine KS.mono ?_
      rintro e W6 ⟨rfl, q6, hq6⟩
      rw [hq6]
      have HX2 := hid (HX.out q6)
      clear KS HX hq6
      go_wp2
      go_ret2
      exact HX2.out
end Go.Proofs.Ytiolkeghgodggaj.Bo
