/-
  The document's SealPlayed.
-/
import Derived.Test.YtiolkeghgodggaiZ0
import Derived.Deep.DeepCutAuto
import Derived.Deep.CutBlock
namespace Go.Proofs.Ytiolkeghgodggai.Se
open Go.RowKit Go.Shelf Go.Sort Go.Lib

/-- What is there behind the switch. -/
def Beh (w wx : World) (X : Nat) (s4 s5 vd : Value) (o : Plain.Off) (D : List RD) (x : Plain.Le) : Prop :=
  ∃ P t, RI w wx s4 s5 vd P (Plain.leS o x) D ∧ wx.rowIs (X + 1) 44 4 (odF t) ∧ t.d = Plain.leT o x ∧ By w.heap.size wx t.p t.c t.d.data
theorem beh_no {w W : World} {X E : Nat} {vp vq vd : Value} {P : List RL} {o : Plain.Off} {D : List RD} {r : RL} (h : XI w W X vp vq vd P o D r ⟨⟨0, 0, 0, []⟩, none, 0⟩) (hE : Plain.leE o r.x = E) (h0 : E ≠ 0) :
    Beh w (W.setCell ⟨X + 1, 0, none⟩ (.int .i64 (E : Nat))) X vp vq vd o D r.x := by
  have hS : Plain.leS o r.x = o := by unfold Plain.leS; rw [hE, if_pos h0]
  have hT : Plain.leT o r.x = ⟨E, 0, 0, []⟩ := by unfold Plain.leT; rw [hE, if_pos h0]
  have h2 := h.code E
  exact ⟨P, _, by rw [hS]; exact h2.ri, h2.rb, hT.symm, By.nil _ _⟩

theorem beh_code {w W : World} {X E : Nat} {vp vq vd : Value} {P : List RL} {o : Plain.Off} {D : List RD} {r : RL} (h : XI w W X vp vq vd P o D r ⟨⟨E, 0, 0, []⟩, none, 0⟩) (hE : Plain.leE o r.x = E) (h0 : E ≠ 0) : Beh w W X vp vq vd o D r.x := by
  have hS : Plain.leS o r.x = o := by unfold Plain.leS; rw [hE, if_pos h0]
  have hT : Plain.leT o r.x = ⟨E, 0, 0, []⟩ := by unfold Plain.leT; rw [hE, if_pos h0]
  exact ⟨P, _, by rw [hS]; exact h.ri, h.rb, hT.symm, By.nil _ _⟩
namespace Plain
/-- Whether one makes another one old. -/
def oldQ (o : Off) (j : Nat) (k : Nat) : Bool := decide (j ≤ k ∧ (o.at k).frm = (o.at j).frm ∧ (o.at k).«to» = (o.at j).«to»)
def codeI (o : Off) (j i : Nat) : Nat := if (o.opened.take i).any (oldQ o j) = true then 10 else 0
theorem codeI_no {o : Off} {j i : Nat} (hi : i < o.opened.length) (h : oldQ o j (o.opened.getD i 0) = false) : codeI o j (i + 1) = codeI o j i := by
  unfold codeI
  rw [List.take_succ_eq_append_getElem hi, List.any_append]
  rw [List.getD_eq_getElem?_getD, List.getElem?_eq_getElem hi] at h
  have h' : oldQ o j o.opened[i] = false := h
  simp [h']
theorem codeI_yes {o : Off} {j i : Nat} (hi : i < o.opened.length) (h : oldQ o j (o.opened.getD i 0) = true) : codeI o j (i + 1) = 10 := by
  unfold codeI
  rw [List.take_succ_eq_append_getElem hi, List.any_append]
  rw [List.getD_eq_getElem?_getD, List.getElem?_eq_getElem hi] at h
  have h' : oldQ o j o.opened[i] = true := h
  simp [h']
theorem codeI_end (o : Off) (j : Nat) {i : Nat} (h : o.opened.length ≤ i) : codeI o j i = if oldO o j = true then 10 else 0 := by
  unfold codeI oldO
  rw [List.take_of_length_le h]
  rfl
end Plain

set_option maxHeartbeats 16000000 in
set_option maxRecDepth 100000 in
theorem rplay_c (p : Option Addr) (n cap : Nat) (R : List RL) (hbig : n ≤ 9223372036854775807) (w : World) (hn : R.length = n) (hp : Mv w p R) :
    Calls Try.prog 14 #[.slice p n cap] w fun e w' => PlayP R w e w' := by
  by_cases h300 : 300 < n
  · have hz : (300 : Int) < (n : Int) := by omega
    have P0 := hid (playP_no hn h300 w w (Below.refl _ _))
    clear hp hn
    go_enter Try.func14, Try.ntmps14
    go_wp2
    go_ret2
    exact P0.out
  have hz : ¬ (300 : Int) < (n : Int) := by omega
  have HP := hid hp
  have HN := hid hn
  clear hp hn
  go_enter Try.func14, Try.ntmps14
  go_wp2
  go_loopg [4, 5, 6, 17] n (fun gg s4 s5 s6 s17 wx => ∃ (k : Nat) (P : List RL) (D : List RD) (pp pq pd : Option Addr) (cp cq cd : Nat), k ≤ n ∧ n - k ≤ gg ∧ s17 = .int .i64 k ∧ s4 = .slice pp P.length cp ∧ s5 = .slice pq (Plain.officeF Plain.Off.nil ((R.map RL.x).take k)).opened.length cq ∧ s6 = .slice pd D.length cd ∧ Aside (RI w wx (.slice pp P.length cp) (.slice pq (Plain.officeF Plain.Off.nil ((R.map RL.x).take k)).opened.length cq) (.slice pd D.length cd) P (Plain.officeF Plain.Off.nil ((R.map RL.x).take k)) D) ∧ Aside (D.map RD.d = Plain.mailF Plain.Off.nil ((R.map RL.x).take k)))
  case atStart => exact ⟨0, [], [], none, none, none, 0, 0, 0, Nat.zero_le _, by omega, rfl, rfl, rfl, rfl, (show Aside _ from RI.nil w), (show Aside _ from rfl)⟩
  case round =>
    obtain ⟨k, P, D, pp, pq, pd, cp, cq, cd, hkk, hg, rfl, rfl, rfl, rfl, A, AD⟩ := hrel
    by_cases hlt : k < n
    · have hltz : (k : Int) < (n : Int) := by omega
      have hll : k < R.length := by rw [HN.out]; exact hlt
      have hlm : k < (R.map RL.x).length := by rw [List.length_map]; exact hll
      have HI := hid A.out
      have HD := hid AD.out
      clear A AD
      have HMv := HP.out.grow (show Below w.heap.size w wr from HI.out.be)
      obtain ⟨b, off, rfl, hb, hc⟩ := holdsL HMv.hd (by omega)
      obtain ⟨c0, c1, c2, c3, c4⟩ := hc k hll
      clear hc HMv
      have RT := hid (Plain.officeF_take Plain.Off.nil (R.map RL.x) k hlm)
      have PT := hid (Plain.mailF_take Plain.Off.nil (R.map RL.x) k hlm)
      rw [getD_map RL.x R default default hll] at RT PT
      have hgo := Plain.Good.nil.run ((R.map RL.x).take k)
      have hPl : P.length ≤ 300 := by
        have h1 := HI.out.len
        have hpl := Plain.posted_le Plain.Off.nil ((R.map RL.x).take k)
        have h2 : ((R.map RL.x).take k).length ≤ k := by rw [List.length_take]; omega
        have h3 : Plain.Off.nil.posted.length = 0 := rfl
        omega
      have hQl : (Plain.officeF Plain.Off.nil ((R.map RL.x).take k)).opened.length ≤ 300 := by
        have hpl := Plain.opened_le Plain.Off.nil ((R.map RL.x).take k)
        have h2 : ((R.map RL.x).take k).length ≤ k := by rw [List.length_take]; omega
        have h3 : Plain.Off.nil.opened.length = 0 := rfl
        omega
      have hDl : D.length = k := by
        have := congrArg List.length HD.out
        rw [List.length_map, Plain.mailF_len, List.length_take] at this
        omega
      have HDL := hid hDl
      clear hDl
      have HY := hid (show By w.heap.size wr (R.getD k default).p (R.getD k default).c (R.getD k default).x.data from (HP.out.bs _ (getD_mem R default hll)).keep (Kb.of_below HI.out.be))
      generalize R.getD k default = r at c0 c1 c2 c3 c4 RT PT HY
      generalize Plain.officeF Plain.Off.nil ((R.map RL.x).take k) = o at HI RT PT hgo hQl
      generalize Plain.mailF Plain.Off.nil ((R.map RL.x).take k) = s at HD PT
      obtain ⟨WA, hWA⟩ : ∃ WA, WA = (wr.alloc (boxL r)).alloc zeroD := ⟨_, rfl⟩
      have HX := hid (show XI w WA wr.heap.size (.slice pp P.length cp) (.slice pq o.opened.length cq) (.slice pd D.length cd) P o D r ⟨⟨0, 0, 0, []⟩, none, 0⟩ by rw [hWA]; exact XI.start HI.out r)
      have HYA := hid (show By w.heap.size WA r.p r.c r.x.data by rw [hWA]; exact HY.out.grow (((Below.refl _ _).alloc (Nat.le_refl _) _).alloc (by simp) _))
      clear HY
      have HGB := hid (show ∀ g, pp = some ⟨g, 0, none⟩ → g < wr.heap.size from fun g e => by subst e; exact (HI.out.pw.lt g rfl).2)
      obtain ⟨pp1, cp1, pq1, cq1, pd1, cd1, e1, e2, e3, fL, fD, fQ⟩ := HX.out.ri.forms
      injection e1 with e1 _ e1c
      injection e2 with e2 _ e2c
      subst e1 e1c e2 e2c
      have FL := hid fL
      have FQ := hid fQ
      clear fL fD fQ e3 HI
      go_upto_block 2 with fail
      rw [← hWA]
      clear hWA c0 c1 c2 c3 c4
      go_cut [4, 5] (fun s4 s5 wx => Aside (Beh w wx wr.heap.size s4 s5 (.slice pd D.length cd) o D r.x))
      case first =>
        obtain ⟨⟨xk, xf, xt, xi, xd⟩, xp, xc⟩ := r
        have hcm : xd.length ≤ 9223372036854775807 := Nat.le_trans HYA.out.le HYA.out.cm
        have c0 : WA.cell? ⟨wr.heap.size, 0, none⟩ = some (.int .i64 xk) := HX.out.xb.c0
        have c1 : WA.cell? ⟨wr.heap.size, 1, none⟩ = some (.int .i64 xf) := HX.out.xb.c1
        have c2 : WA.cell? ⟨wr.heap.size, 2, none⟩ = some (.int .i64 xt) := HX.out.xb.c2
        have c3 : WA.cell? ⟨wr.heap.size, 3, none⟩ = some (.int .i64 xi) := HX.out.xb.c3
        have c4 : WA.cell? ⟨wr.heap.size, 4, none⟩ = some (.slice xp xd.length xc) := HX.out.xb.c4
        have y0 : WA.cell? ⟨wr.heap.size + 1, 0, none⟩ = some (.int .i64 0) := HX.out.rb.cell (i := 0) (by omega)
        have y1 : WA.cell? ⟨wr.heap.size + 1, 1, none⟩ = some (.int .i64 0) := HX.out.rb.cell (i := 1) (by omega)
        have y2 : WA.cell? ⟨wr.heap.size + 1, 2, none⟩ = some (.int .i64 0) := HX.out.rb.cell (i := 2) (by omega)
        have y3 : WA.cell? ⟨wr.heap.size + 1, 3, none⟩ = some (.slice none 0 0) := HX.out.rb.cell (i := 3) (by omega)
        have z0 := HX.out.rb.frozen 0
        have z1 := HX.out.rb.frozen 1
        have z2 := HX.out.rb.frozen 2
        have z3 := HX.out.rb.frozen 3
        by_cases hk1 : xk = 1
        · subst hk1
          by_cases t1 : xt < 0
          · as_aux_lemma =>
              have P0 := hid (beh_no HX.out (E := 2) (by unfold Plain.leE; dsimp only; rw [if_neg (by omega), if_pos (by omega)]) (by decide))
              go_wp2
              go_meet
              case rel => exact (show Aside _ from P0.out)
          by_cases t2 : 8 < xt
          · as_aux_lemma =>
              have P0 := hid (beh_no HX.out (E := 2) (by unfold Plain.leE; dsimp only; rw [if_neg (by omega), if_pos (by omega)]) (by decide))
              go_wp2
              go_meet
              case rel => exact (show Aside _ from P0.out)
          by_cases f1 : xf < 0
          · as_aux_lemma =>
              have P0 := hid (beh_no HX.out (E := 2) (by unfold Plain.leE; dsimp only; rw [if_neg (by omega), if_pos (by omega)]) (by decide))
              go_wp2
              go_meet
              case rel => exact (show Aside _ from P0.out)
          by_cases f2 : 8 < xf
          · as_aux_lemma =>
              have P0 := hid (beh_no HX.out (E := 2) (by unfold Plain.leE; dsimp only; rw [if_neg (by omega), if_pos (by omega)]) (by decide))
              go_wp2
              go_meet
              case rel => exact (show Aside _ from P0.out)
          by_cases s1 : 256 < xd.length
          · have s1z : (256 : Int) < (xd.length : Int) := by omega
            as_aux_lemma =>
              have P0 := hid (beh_no HX.out (E := 1) (by unfold Plain.leE; dsimp only; rw [if_neg (by omega), if_neg (by omega), if_pos rfl, if_pos s1]) (by decide))
              go_wp2
              go_meet
              case rel => exact (show Aside _ from P0.out)
          · have s1z : ¬ (256 : Int) < (xd.length : Int) := by omega
            have hE0 : Plain.leE o ⟨1, xf, xt, xi, xd⟩ = 0 := by unfold Plain.leE; dsimp only; rw [if_neg (by omega), if_neg (by omega), if_pos rfl, if_neg s1]
            have HS := hid (show Plain.leS o ⟨1, xf, xt, xi, xd⟩ = { o with posted := o.posted ++ [⟨xf, xt, xd⟩] } by unfold Plain.leS; rw [hE0, if_neg (by decide), if_pos rfl])
            have HT := hid (show Plain.leT o ⟨1, xf, xt, xi, xd⟩ = ⟨0, P.length, xd.length, []⟩ by unfold Plain.leT; rw [hE0, if_neg (by decide), if_pos rfl, HX.out.ri.len])
            obtain ⟨WB, hWB⟩ : ∃ WB, WB = (WA.setCell ⟨wr.heap.size + 1, 1, none⟩ (.int .i64 (P.length : Int))).setCell ⟨wr.heap.size + 1, 2, none⟩ (.int .i64 (xd.length : Int)) := ⟨_, rfl⟩
            have XB := hid (show XI w WB wr.heap.size (.slice pp P.length cp) (.slice pq o.opened.length cq) (.slice pd D.length cd) P o D ⟨⟨1, xf, xt, xi, xd⟩, xp, xc⟩ ⟨⟨0, P.length, xd.length, []⟩, none, 0⟩ by rw [hWB]; exact (HX.out.id P.length).size xd.length)
            have YB : By w.heap.size WB xp xc xd := HYA.out.keep (Only1.kb (w' := WB) (by rw [hWB]; exact (Only1.set _ _ _).trans (Only1.set _ _ _)) HX.out.rb (by decide) (by have := HX.out.hX; omega))
            obtain ⟨p', c', W1, hr1, hb1, hg1⟩ := (show By w.heap.size WB.drew xp xc xd from YB.drewN 1).app (by omega)
            have X1 := hid (XI.grow (W := WB.drew) (XB.out.drewN 1) hg1)
            obtain ⟨pn, cn, U, hr2, hri2, hrow2, hkp2⟩ := X1.out.ri.snocP (by omega) ⟨⟨0, xf, xt, 0, xd⟩, p', c'⟩ hb1
            have hr3 : (Builtin.append_ #[38, 38] 38 #[.slice pp P.length cp, .slice (some ⟨W1.heap.size, 0, none⟩) 1 1]).run Try.prog (W1.alloc (.cells #[.int .i64 0, .int .i64 xf, .int .i64 xt, .int .i64 0, .slice p' xd.length c'] 53)) = .ok (.slice pn (P.length + 1) cn) U := hr2
            have R1 := hid hr1
            have R3 := hid hr3
            have HB := hid (show Beh w U wr.heap.size (.slice pn (P.length + 1) cn) (.slice pq o.opened.length cq) (.slice pd D.length cd) o D ⟨1, xf, xt, xi, xd⟩ from ⟨_, ⟨⟨0, P.length, xd.length, []⟩, none, 0⟩, by rw [HS.out]; exact hri2, hrow2 _ _ _ _ X1.out.rb (by decide), HT.out.symm, By.nil _ _⟩)
            have XU := hid (X1.out.of_keep (hkp2 wr.heap.size X1.out.lt X1.out.nx))
            clear hr1 hr2 hr3 hri2 hrow2 hkp2 hb1 hg1 YB
            go_wp2
            rw [← hWB]
            clear hWB c0 c1 c2 c3 c4 y0 y1 y2 y3 z0 z1 z2 z3
            have c1 : WB.cell? ⟨wr.heap.size, 1, none⟩ = some (.int .i64 xf) := XB.out.xb.c1
            have c2 : WB.cell? ⟨wr.heap.size, 2, none⟩ = some (.int .i64 xt) := XB.out.xb.c2
            have c4 : WB.cell? ⟨wr.heap.size, 4, none⟩ = some (.slice xp xd.length xc) := XB.out.xb.c4
            have d1 : W1.cell? ⟨wr.heap.size, 1, none⟩ = some (.int .i64 xf) := X1.out.xb.c1
            have d2 : W1.cell? ⟨wr.heap.size, 2, none⟩ = some (.int .i64 xt) := X1.out.xb.c2
            have d4 : W1.cell? ⟨wr.heap.size, 4, none⟩ = some (.slice xp xd.length xc) := X1.out.xb.c4
            have u1 : U.cell? ⟨wr.heap.size, 1, none⟩ = some (.int .i64 xf) := XU.out.c1
            have u2 : U.cell? ⟨wr.heap.size, 2, none⟩ = some (.int .i64 xt) := XU.out.c2
            have u4 : U.cell? ⟨wr.heap.size, 4, none⟩ = some (.slice xp xd.length xc) := XU.out.c4
            clear XB X1 XU
            go_region_held3 (fun w' => w'.cell? ⟨wr.heap.size, 1, none⟩ = some (.int .i64 xf) ∧ w'.cell? ⟨wr.heap.size, 2, none⟩ = some (.int .i64 xt) ∧ w'.cell? ⟨wr.heap.size, 4, none⟩ = some (.slice xp xd.length xc)) (go_keep) (first | (refine step_appG _ _ 42 rfl 42 rfl (.slice none 0 0) (.slice xp xd.length xc) (by simp [Act.eval]) (by simp [Act.eval]) R1.out (by rfl) ?_) | (refine step_appG _ _ 38 rfl 38 rfl (.slice pp P.length cp) (.slice (some ⟨W1.heap.size, 0, none⟩) 1 1) (by simp [Act.eval]) (by simp [Act.eval]) R3.out (by rfl) ?_))
            all_goals
              go_wp2_with fail
              go_meet
              case rel => exact (show Aside _ from HB.out)
        · have g1 : (xk != 1) = true := by simpa using hk1
          by_cases hk2 : xk = 2
          · subst hk2
            by_cases t1 : xt < 0
            · as_aux_lemma =>
                have P0 := hid (beh_no HX.out (E := 2) (by unfold Plain.leE; dsimp only; rw [if_neg (by omega), if_pos (by omega)]) (by decide))
                go_wp2
                go_meet
                case rel => exact (show Aside _ from P0.out)
            by_cases t2 : 8 < xt
            · as_aux_lemma =>
                have P0 := hid (beh_no HX.out (E := 2) (by unfold Plain.leE; dsimp only; rw [if_neg (by omega), if_pos (by omega)]) (by decide))
                go_wp2
                go_meet
                case rel => exact (show Aside _ from P0.out)
            have hE : Plain.leE o ⟨2, xf, xt, xi, xd⟩ = if xi < 0 ∨ (P.length : Int) ≤ xi then 6 else if (o.at xi.toNat).«to» ≠ xt then 11 else if Plain.oldO o xi.toNat = true then 10 else 0 := by
              unfold Plain.leE
              dsimp only
              rw [if_neg (by omega), if_neg (by omega), if_neg (by omega), HX.out.ri.len]
            by_cases i1 : xi < 0
            · as_aux_lemma =>
                have P0 := hid (beh_no HX.out (E := 6) (by rw [hE, if_pos (.inl i1)]) (by decide))
                go_wp2
                go_meet
                case rel => exact (show Aside _ from P0.out)
            by_cases i2 : (P.length : Int) ≤ xi
            · as_aux_lemma =>
                have P0 := hid (beh_no HX.out (E := 6) (by rw [hE, if_pos (.inr i2)]) (by decide))
                go_wp2
                go_meet
                case rel => exact (show Aside _ from P0.out)
            obtain ⟨j, rfl⟩ : ∃ j : Nat, xi = j := ⟨xi.toNat, by omega⟩
            have hjP : j < P.length := by omega
            rw [if_neg (by omega), show ((j : Nat) : Int).toNat = j by omega] at hE
            obtain ⟨gb, rfl⟩ := HX.out.ri.someP (by omega)
            have hgb : gb < wr.heap.size := HGB.out gb rfl
            have hat := HX.out.ri.at' hjP
            obtain ⟨v0, v1, v2, v3, v4⟩ := HX.out.ri.atP hjP
            have hyb := hid (HX.out.ri.bp _ (getD_mem P default hjP))
            have hys := hgo.at (k := j) (by rw [HX.out.ri.len]; exact hjP)
            rw [hat] at hys hE
            have HPJ := hid (show P.getD j default = P.getD j default from rfl)
            obtain ⟨y, hy⟩ : ∃ y, y = P.getD j default := ⟨_, rfl⟩
            rw [← hy] at v0 v1 v2 v3 v4 hat hyb hys hE HPJ
            have HYY := hid hy
            clear hy
            obtain ⟨⟨yk, yf, yt, yi, yd⟩, yp, yc⟩ := y
            have hat : o.at j = ⟨yf, yt, yd⟩ := hat
            have hysz : yd.length ≤ 256 := hys.2.2
            have hE : Plain.leE o ⟨2, xf, xt, j, xd⟩ = if yt ≠ xt then 11 else if Plain.oldO o j = true then 10 else 0 := hE
            clear hys v0 v3
            dsimp only at v1 v2 v4
            rw [Nat.zero_add] at v1 v2 v4
            have hjz : (j : Int) < (P.length : Int) := by omega
            by_cases hne : yt ≠ xt
            · have P0 := hid (fun q => beh_no (HX.out.drewN q) (E := 11) (by rw [hE, if_pos hne]) (by decide))
              have hgd : (yt != xt) = true := by simpa using hne
              as_aux_lemma =>
                go_wp2
                go_quiet (fail)
                go_wp2
                go_meet
                case rel => exact (show Aside _ from P0.out _)
            have hyt : yt = xt := Classical.not_not.1 hne
            subst hyt
            clear hne
            rw [if_neg (fun x => x rfl)] at hE
            have hgd : (yt != yt) = false := by simp
            go_wp2
            go_quiet (fail)
            obtain ⟨WD, hWD⟩ : ∃ WD, WD = WA.drewN nq := ⟨_, rfl⟩
            rw [← hWD]
            have XD := hid (show XI w WD wr.heap.size (.slice (some ⟨gb, 0, none⟩) P.length cp) (.slice pq o.opened.length cq) (.slice pd D.length cd) P o D ⟨⟨2, xf, yt, j, xd⟩, xp, xc⟩ ⟨⟨0, 0, 0, []⟩, none, 0⟩ by rw [hWD]; exact HX.out.drewN nq)
            clear hWD HX HYA FL FQ c0 c1 c2 c3 c4 y0 y1 y2 y3 z0 z1 z2 z3 v1 v2 v4 hyb hgd
            obtain ⟨wo, hwo⟩ : ∃ wo, wo = wr := ⟨_, rfl⟩
            subst hwo
            go_wp2
            go_loopg [11, 23] o.opened.length (fun gg _ s23 wx => ∃ i c : Nat, i ≤ o.opened.length ∧ o.opened.length - i ≤ gg ∧ s23 = .int .i64 i ∧ Aside (XI w wx wo.heap.size (.slice (some ⟨gb, 0, none⟩) P.length cp) (.slice pq o.opened.length cq) (.slice pd D.length cd) P o D ⟨⟨2, xf, yt, j, xd⟩, xp, xc⟩ ⟨⟨c, 0, 0, []⟩, none, 0⟩) ∧ Aside (c = Plain.codeI o j i))
            case atStart => exact ⟨0, 0, Nat.zero_le _, by omega, rfl, (show Aside _ from XD.out), (show Aside _ from rfl)⟩
            case round =>
              obtain ⟨i, c, hii, hgg, rfl, A, AC⟩ := hrel
              have XR := hid A.out
              have HC := hid AC.out
              clear A AC XD
              by_cases hil : i < o.opened.length
              · have hilz : (i : Int) < (o.opened.length : Int) := by omega
                obtain ⟨gq, rfl⟩ := XR.out.ri.someQ (by omega)
                have e0 := XR.out.ri.atQ hil
                rw [Nat.zero_add] at e0
                have hkP : o.opened.getD i 0 < P.length := by rw [← XR.out.ri.len]; exact hgo.op _ (getD_mem o.opened 0 hil)
                have hak := XR.out.ri.at' hkP
                obtain ⟨_, k1, k2, _, _⟩ := XR.out.ri.atP hkP
                obtain ⟨_, v1, _, _, _⟩ := XR.out.ri.atP hjP
                rw [← HYY.out] at v1
                dsimp only at v1
                rw [Nat.zero_add] at k1 k2 v1
                have c2 : wr.cell? ⟨wo.heap.size, 2, none⟩ = some (.int .i64 yt) := XR.out.xb.c2
                have c3 : wr.cell? ⟨wo.heap.size, 3, none⟩ = some (.int .i64 (j : Int)) := XR.out.xb.c3
                have y0 : wr.cell? ⟨wo.heap.size + 1, 0, none⟩ = some (.int .i64 (c : Int)) := XR.out.rb.cell (i := 0) (by omega)
                have z0 := XR.out.rb.frozen 0
                have QN := hid (fun h => Plain.codeI_no (j := j) hil h)
                have QY := hid (fun h => Plain.codeI_yes (j := j) hil h)
                obtain ⟨kk, hkk'⟩ : ∃ kk, kk = o.opened.getD i 0 := ⟨_, rfl⟩
                rw [← hkk'] at e0 hkP hak k1 k2 QN QY
                clear hkk'
                obtain ⟨⟨⟨ak, af, at', ai, ad⟩, ap, ac⟩, hyk⟩ : ∃ y, y = P.getD kk default := ⟨_, rfl⟩
                rw [← hyk] at hak k1 k2
                clear hyk
                have hak : o.at kk = ⟨af, at', ad⟩ := hak
                dsimp only at k1 k2
                have hkz : (kk : Int) < (P.length : Int) := by omega
                have HQ := hid (show Plain.oldQ o j kk = decide (j ≤ kk ∧ af = yf ∧ at' = yt) by unfold Plain.oldQ; rw [hak, hat])
                by_cases q1 : j ≤ kk
                · have q1d : decide ((j : Int) ≤ (kk : Int)) = true := decide_eq_true (by omega)
                  by_cases q2 : af = yf
                  · subst q2
                    have q2d : (af == af) = true := by simp
                    by_cases q3 : at' = yt
                    · subst q3
                      have q3d : (at' == at') = true := by simp
                      have F := hid (fun q => (XR.out.drewN q).code 10)
                      have G := hid (QY.out (by rw [HQ.out]; exact decide_eq_true ⟨q1, rfl, rfl⟩))
                      clear hE hat HQ HYY
                      go_wp2
                      go_quiet (fail)
                      go_wp2
                      go_roundg (o.opened.length - (i + 1))
                      case measure => omega
                      case rel => exact ⟨i + 1, 10, by omega, by omega, by go_num, (show Aside _ from F.out _), (show Aside _ from G.out.symm)⟩
                    · have q3d : (at' == yt) = false := by simpa using q3
                      have F := hid (fun q => XR.out.drewN q)
                      have G := hid (QN.out (by rw [HQ.out]; exact decide_eq_false (fun x => q3 x.2.2)))
                      clear hE hat HQ HYY
                      go_wp2
                      go_quiet (fail)
                      go_wp2
                      go_roundg (o.opened.length - (i + 1))
                      case measure => omega
                      case rel => exact ⟨i + 1, c, by omega, by omega, by go_num, (show Aside _ from F.out _), (show Aside _ from by rw [G.out]; exact HC.out)⟩
                  · have q2d : (af == yf) = false := by simpa using q2
                    have F := hid (fun q => XR.out.drewN q)
                    have G := hid (QN.out (by rw [HQ.out]; exact decide_eq_false (fun x => q2 x.2.1)))
                    clear hE hat HQ HYY
                    go_wp2
                    go_quiet (fail)
                    go_wp2
                    go_roundg (o.opened.length - (i + 1))
                    case measure => omega
                    case rel => exact ⟨i + 1, c, by omega, by omega, by go_num, (show Aside _ from F.out _), (show Aside _ from by rw [G.out]; exact HC.out)⟩
                · have q1d : decide ((j : Int) ≤ (kk : Int)) = false := decide_eq_false (by omega)
                  have F := hid (fun q => XR.out.drewN q)
                  have G := hid (QN.out (by rw [HQ.out]; exact decide_eq_false (fun x => q1 x.1)))
                  clear hE hat HQ HYY
                  go_wp2
                  go_quiet (fail)
                  go_wp2
                  go_roundg (o.opened.length - (i + 1))
                  case measure => omega
                  case rel => exact ⟨i + 1, c, by omega, by omega, by go_num, (show Aside _ from F.out _), (show Aside _ from by rw [G.out]; exact HC.out)⟩
              · have hilz : ¬ (i : Int) < (o.opened.length : Int) := by omega
                have hC : c = if Plain.oldO o j = true then 10 else 0 := by rw [HC.out, Plain.codeI_end o j (by omega)]
                clear HC
                by_cases hold : Plain.oldO o j = true
                · rw [if_pos hold] at hC hE
                  subst hC
                  have y0 : wr.cell? ⟨wo.heap.size + 1, 0, none⟩ = some (.int .i64 10) := XR.out.rb.cell (i := 0) (by omega)
                  have P0 := hid (beh_code XR.out hE (by decide))
                  clear hE hat HYY hold
                  go_wp2
                  go_meet
                  case rel => exact (show Aside _ from P0.out)
                · rw [if_neg hold] at hC hE
                  subst hC
                  have y0 : wr.cell? ⟨wo.heap.size + 1, 0, none⟩ = some (.int .i64 0) := XR.out.rb.cell (i := 0) (by omega)
                  have c3 : wr.cell? ⟨wo.heap.size, 3, none⟩ = some (.int .i64 (j : Int)) := XR.out.xb.c3
                  have HS := hid (show Plain.leS o ⟨2, xf, yt, j, xd⟩ = { o with opened := o.opened ++ [j] } by unfold Plain.leS; rw [hE, if_neg (by decide), if_neg (by dsimp only; omega)]; rfl)
                  have HT := hid (show Plain.leT o ⟨2, xf, yt, j, xd⟩ = ⟨0, j, yd.length, yd⟩ by unfold Plain.leT; rw [hE, if_neg (by decide), if_neg (by dsimp only; omega)]; dsimp only; rw [show ((j : Nat) : Int).toNat = j by omega, hat])
                  obtain ⟨pn, cn, U, hr1, hxU⟩ := XR.out.snocQ (by omega) j
                  have yb := hxU.ri.bp _ (getD_mem P default hjP)
                  rw [← HYY.out] at yb
                  obtain ⟨p', c', W1, hr2, hb2, hg2⟩ := (show By w.heap.size U.drew yp yc yd from yb.drewN 1).app (by omega)
                  have X1 := hid (XI.grow (W := U.drew) (hxU.drewN 1) hg2)
                  have R1 := hid hr1
                  have R2 := hid hr2
                  have HB2 := hid hb2
                  have u3 : U.cell? ⟨wo.heap.size, 3, none⟩ = some (.int .i64 (j : Int)) := hxU.xb.c3
                  have d3 : W1.cell? ⟨wo.heap.size, 3, none⟩ = some (.int .i64 (j : Int)) := X1.out.xb.c3
                  obtain ⟨_, _, _, _, u4⟩ := hxU.ri.atP hjP
                  obtain ⟨_, _, _, _, d4⟩ := X1.out.ri.atP hjP
                  rw [← HYY.out, Nat.zero_add] at u4 d4
                  dsimp only at u4 d4
                  have y0' : W1.cell? ⟨wo.heap.size + 1, 0, none⟩ = some (.int .i64 0) := X1.out.rb.cell (i := 0) (by omega)
                  have y1' : W1.cell? ⟨wo.heap.size + 1, 1, none⟩ = some (.int .i64 0) := X1.out.rb.cell (i := 1) (by omega)
                  have y2' : W1.cell? ⟨wo.heap.size + 1, 2, none⟩ = some (.int .i64 0) := X1.out.rb.cell (i := 2) (by omega)
                  have y3' : W1.cell? ⟨wo.heap.size + 1, 3, none⟩ = some (.slice none 0 0) := X1.out.rb.cell (i := 3) (by omega)
                  have z0' := X1.out.rb.frozen 0
                  have z1' := X1.out.rb.frozen 1
                  have z2' := X1.out.rb.frozen 2
                  have z3' := X1.out.rb.frozen 3
                  have s4 : ((((W1.setCell ⟨wo.heap.size + 1, 0, none⟩ (.int .i64 0)).setCell ⟨wo.heap.size + 1, 1, none⟩ (.int .i64 (j : Int))).setCell ⟨wo.heap.size + 1, 2, none⟩ (.int .i64 (yd.length : Int))).setCell ⟨wo.heap.size + 1, 3, none⟩ (.slice p' yd.length c')).cell? ⟨gb, j * 5 + 4, none⟩ = some (.slice yp yd.length yc) := by
                    have e6 := (putD_only W1 (wo.heap.size + 1) 0 ⟨⟨0, j, yd.length, yd⟩, p', c'⟩).block gb (by omega)
                    rw [← d4]
                    show (putD W1 (wo.heap.size + 1) 0 ⟨⟨0, j, yd.length, yd⟩, p', c'⟩).cell? _ = _
                    simp only [World.cell?, e6]
                  clear hE hat HYY hold hr1 hr2 hb2 hg2 hxU yb XR
                  go_wp2_with (first | (at_builtin; refine wpList_app _ _ 51 R1.out (by rfl) (by rfl) (by rfl) (by rfl) (by rfl) ?_) | fail)
                  go_wp2
                  go_region_held3 (fun w' => w'.cell? ⟨wo.heap.size, 3, none⟩ = some (.int .i64 (j : Int)) ∧ w'.cell? ⟨gb, j * 5 + 4, none⟩ = some (.slice yp yd.length yc)) (go_keep) (first | (refine step_appG _ _ 42 rfl 42 rfl (.slice none 0 0) (.slice yp yd.length yc) (by simp [Act.eval]) (by simp [Act.eval]) R2.out (by rfl) ?_))
                  all_goals
                    obtain ⟨W6, hW6⟩ : ∃ W6, W6 = (((W1.setCell ⟨wo.heap.size + 1, 0, none⟩ (.int .i64 0)).setCell ⟨wo.heap.size + 1, 1, none⟩ (.int .i64 (j : Int))).setCell ⟨wo.heap.size + 1, 2, none⟩ (.int .i64 (yd.length : Int))).setCell ⟨wo.heap.size + 1, 3, none⟩ (.slice p' yd.length c') := ⟨_, rfl⟩
                    rw [← hW6]
                    have F6 := hid (show Beh w W6 wo.heap.size (.slice (some ⟨gb, 0, none⟩) P.length cp) (.slice pn (o.opened.length + 1) cn) (.slice pd D.length cd) o D ⟨2, xf, yt, j, xd⟩ by
                      have e6 := putD_only W1 (wo.heap.size + 1) 0 ⟨⟨0, j, yd.length, yd⟩, p', c'⟩
                      have x6 := X1.out.all ⟨⟨0, j, yd.length, yd⟩, p', c'⟩
                      have b6 := HB2.out.keep (e6.kb X1.out.rb (by decide) (by have := X1.out.hX; omega))
                      rw [hW6]
                      refine ⟨P, ⟨⟨0, j, yd.length, yd⟩, p', c'⟩, ?_, x6.rb, HT.out.symm, b6⟩
                      rw [HS.out]
                      exact x6.ri)
                    clear hW6
                    go_wp2_with fail
                    go_meet
                    case rel => exact (show Aside _ from F6.out)
          · have g2 : (xk != 2) = true := by simpa using hk2
            as_aux_lemma =>
              have P0 := hid (beh_no HX.out (E := 3) (by unfold Plain.leE; dsimp only; rw [if_pos ⟨hk1, hk2⟩]) (by decide))
              go_wp2
              go_meet
              case rel => exact (show Aside _ from P0.out)
      case rest =>
        as_aux_lemma =>
          obtain ⟨P1, t, hri, hrb, hT, hBy⟩ := hcut.out
          obtain ⟨pp1, cp1, pq1, cq1, pd1, cd1, rfl, rfl, e3, fL, fD, fQ⟩ := hri.forms
          clear fL fD fQ e3 HX HYA FL FQ HGB
          have HT := hid hT
          obtain ⟨pn, cn, U, hrun, hU⟩ := hri.snocD (by have := HDL.out; omega) t hBy
          have HU := hid hU
          have RUN := hid hrun
          clear hcut hT hBy hU hrun hri
          obtain ⟨⟨tc, ti, ts, td⟩, tp, tq⟩ := t
          have y0 : wc.cell? ⟨wr.heap.size + 1, 0, none⟩ = some (.int .i64 (tc : Nat)) := hrb.cell (i := 0) (by omega)
          have y1 : wc.cell? ⟨wr.heap.size + 1, 1, none⟩ = some (.int .i64 ti) := hrb.cell (i := 1) (by omega)
          have y2 : wc.cell? ⟨wr.heap.size + 1, 2, none⟩ = some (.int .i64 ts) := hrb.cell (i := 2) (by omega)
          have y3 : wc.cell? ⟨wr.heap.size + 1, 3, none⟩ = some (.slice tp td.length tq) := hrb.cell (i := 3) (by omega)
          clear hrb
          have hRun : (Builtin.append_ #[39, 39] 39 #[.slice pd D.length cd, .slice (some ⟨wc.heap.size, 0, none⟩) 1 1]).run Try.prog (wc.alloc (.cells #[.int .i64 (tc : Nat), .int .i64 ti, .int .i64 ts, .slice tp td.length tq] 44)) = .ok (.slice pn (D.length + 1) cn) U := RUN.out
          have RUN2 := hid hRun
          clear RUN hRun
          go_wp2_with (first | (at_builtin; refine wpList_app _ _ 39 RUN2.out (by rfl) (by rfl) (by rfl) (by rfl) (by rfl) ?_) | fail)
          go_wp2
          go_roundg (n - (k + 1))
          case measure => omega
          case rel =>
            refine ⟨k + 1, P1, D ++ [⟨⟨tc, ti, ts, td⟩, tp, tq⟩], pp1, pq1, pn, cp1, cq1, cn, by omega, by omega, by go_num, rfl, ?_, ?_, (show Aside _ from ?_), (show Aside _ from ?_)⟩
            · rw [RT.out]
            · rw [List.length_append]; rfl
            · rw [RT.out, List.length_append]; exact HU.out
            · rw [PT.out, List.map_append, HD.out, ← HT.out]; rfl
    · have hltz : ¬ (k : Int) < (n : Int) := by omega
      have ek : k = n := by omega
      have hall : (R.map RL.x).take k = R.map RL.x := List.take_of_length_le (by rw [List.length_map, HN.out]; omega)
      have hi := A.out
      have hD := AD.out
      rw [hall] at hi hD
      obtain ⟨pp1, cp1, pq1, cq1, pd1, cd1, e1, e2, e3, fL, fD, fQ⟩ := hi.forms
      injection e3 with e3 _ e3c
      subst e3 e3c
      have hDl : D.length = n := by
        have := congrArg List.length hD
        rw [List.length_map, Plain.mailF_len, List.length_map, HN.out] at this
        exact this
      have HE := hid (playP_yes (c := cd) HN.out h300 hi.be hD ⟨fD, fun r hr => (hi.bd r hr).top⟩)
      clear hi hD A AD hall fL fD fQ e1 e2
      generalize D.length = dl at *
      subst hDl
      go_wp2
      go_ret2
      exact HE.out
end Go.Proofs.Ytiolkeghgodggai.Se
