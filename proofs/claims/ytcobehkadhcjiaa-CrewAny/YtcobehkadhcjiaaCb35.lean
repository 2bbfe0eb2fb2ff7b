/-
  Goroutines among others: part 35 of what the law's own text rests on.
-/
import Derived.Test.YtcobehkadhcjiaaCb33
import Derived.Test.YtcobehkadhcjiaaCb34
/-
  keep.CrewAny: its end.
-/
namespace Go.Proofs.Ytcobehkadhcjiaa
open Go Go.Conc Go.RowKit Go.Sort Go.Shelf

section
variable {P : Program} {ops : Array Oper} {Q : Exit → Act → World → Prop} {i : Nat} {rest : List Nat} {t : Array Value} {w : World} {n : Nat} {l : List (Nat × Value)}
theorem wo_callG (hS : Sl t n l) {o : Oper} (d : Nat) (f : FuncId) (args : Array Value) (R : Value → World → Prop) (ho : ops[i]? = some o) (hw : Region.wanted o (yielded ops t) = true) (hd : o.dst = some d) (hn : d < n)
    (hr : (execOp (Act.eval ⟨t, []⟩) o).run P w = .ok (.enter f args) w) (hC : Calls P f args w fun e w' => ∃ v, e = .returned v ∧ R v w')
    (h : ∀ v w' t', R v w' → Sl t' n (setS d v l) → wpOps P ops Q rest ⟨t', []⟩ w') : wpOps P ops Q (i :: rest) ⟨t, []⟩ w := by
  unfold wpOps
  rw [ho]
  dsimp only
  rw [if_pos hw]
  left
  unfold Oper.wp
  rw [hr, Oper.upon_enter]
  refine hC.mono ?_
  rintro e w' ⟨v, rfl, hR⟩
  dsimp only
  rw [hd]
  exact h v w' _ hR (hS.put hn v)
end
theorem run_eq0 {P : Program} {e : Operand → Value} {w : World} {o : Oper} {x y : Operand} {T : TypeId} (ho : o.op = .binOp .eql T x y T) (i : Int) (h1 : e x = .int .i64 i) (h2 : e y = .int .i64 i) : (execOp e o).run P w = .ok (.value (.bool true)) w := by
  have := run_eql (P := P) (w := w) ho i i h1 h2
  rwa [show (i == i) = true by simp] at this

/-- The answers, laid together. -/
theorem end18_wp {Q : Exit → Act → World → Prop} (t : Array Value) (w : World) (r1 r2 r3 : Value) (L : List Plain.En) (hl : L.length ≤ 1000) (hS : Sl t 101 [(12, r1), (13, .int .i64 0), (14, r2), (15, .int .i64 0), (16, r3), (17, .int .i64 0)]) (h1 : SegN w r1 L) (h2 : SegN w r2 L) (h3 : SegN w r3 [e3])
    (K : ∀ (t' : Array Value) (w' : World), Sl t' 101 [(4, .bool true)] → Q .normal ⟨t', []⟩ w') : wpOps Try.prog (opsY 18) Q [0, 1, 2, 3, 4, 5, 6, 7, 8, 9, 10, 11, 12, 13, 14, 15, 16, 17, 18, 19, 20] ⟨t, []⟩ w := by
  obtain ⟨p3, c3, rfl, _⟩ := h3.form
  refine wo_mv hS (o := (opsY 18)[0]'(by rw [sizeY18]; decide)) 13 81 (.int .i64 0) rfl (.inl rfl) rfl rfl (by omega) (by simp) fun t1 hS1 => ?_
  refine wo_vl hS1 (o := (opsY 18)[1]'(by rw [sizeY18]; decide)) 82 (.bool true) rfl rfl rfl (by omega) (run_eq0 (x := .tmp 81) (y := .const (.int .i64 0)) (T := 24) rfl 0 (hS1.ev (by simp [setS])) rfl) fun t2 hS2 => ?_
  refine wo_mv hS2 (o := (opsY 18)[2]'(by rw [sizeY18]; decide)) 82 83 (.bool true) rfl (.inl rfl) rfl rfl (by omega) (by simp [setS]) fun t3 hS3 => ?_
  refine wo_vl hS3 (o := (opsY 18)[3]'(by rw [sizeY18]; decide)) 84 (.int .i64 0) rfl (wanted_of (o1 := (opsY 18)[2]'(by rw [sizeY18]; decide)) rfl rfl rfl (hS3.get (by simp [setS]))) rfl (by omega) (run_mv (x := .tmp 15) (.inl rfl) (hS3.ev (by simp [setS]))) fun t4 hS4 => ?_
  refine wo_vl hS4 (o := (opsY 18)[4]'(by rw [sizeY18]; decide)) 85 (.bool true) rfl (wanted_of (o1 := (opsY 18)[2]'(by rw [sizeY18]; decide)) rfl rfl rfl (hS4.get (by simp [setS]))) rfl (by omega) (run_eq0 (x := .tmp 84) (y := .const (.int .i64 0)) (T := 24) rfl 0 (hS4.ev (by simp [setS])) rfl) fun t5 hS5 => ?_
  refine wo_vl hS5 (o := (opsY 18)[5]'(by rw [sizeY18]; decide)) 86 (.bool true) rfl rfl rfl (by omega) (run_pick (c := .tmp 83) (x := .tmp 85) (y := .const (.bool false)) rfl (hS5.ev (by simp [setS])) (hS5.ev (by simp [setS]))) fun t6 hS6 => ?_
  refine wo_mv hS6 (o := (opsY 18)[6]'(by rw [sizeY18]; decide)) 86 87 (.bool true) rfl (.inl rfl) rfl rfl (by omega) (by simp [setS]) fun t7 hS7 => ?_
  refine wo_vl hS7 (o := (opsY 18)[7]'(by rw [sizeY18]; decide)) 88 (.int .i64 0) rfl (wanted_of (o1 := (opsY 18)[6]'(by rw [sizeY18]; decide)) rfl rfl rfl (hS7.get (by simp [setS]))) rfl (by omega) (run_mv (x := .tmp 17) (.inl rfl) (hS7.ev (by simp [setS]))) fun t8 hS8 => ?_
  refine wo_vl hS8 (o := (opsY 18)[8]'(by rw [sizeY18]; decide)) 89 (.bool true) rfl (wanted_of (o1 := (opsY 18)[6]'(by rw [sizeY18]; decide)) rfl rfl rfl (hS8.get (by simp [setS]))) rfl (by omega) (run_eq0 (x := .tmp 88) (y := .const (.int .i64 0)) (T := 24) rfl 0 (hS8.ev (by simp [setS])) rfl) fun t9 hS9 => ?_
  refine wo_vl hS9 (o := (opsY 18)[9]'(by rw [sizeY18]; decide)) 90 (.bool true) rfl rfl rfl (by omega) (run_pick (c := .tmp 87) (x := .tmp 89) (y := .const (.bool false)) rfl (hS9.ev (by simp [setS])) (hS9.ev (by simp [setS]))) fun t10 hS10 => ?_
  have hA : Sl t10 101 [(90, .bool true), (12, r1), (14, r2), (16, .slice p3 1 c3)] := hS10.sub (by simp [setS])
  clear hS hS1 hS2 hS3 hS4 hS5 hS6 hS7 hS8 hS9 hS10
  refine wo_mv hA (o := (opsY 18)[10]'(by rw [sizeY18]; decide)) 90 91 (.bool true) rfl (.inl rfl) rfl rfl (by omega) (by simp) fun t11 hS11 => ?_
  refine wo_vl hS11 (o := (opsY 18)[11]'(by rw [sizeY18]; decide)) 92 (.slice p3 1 c3) rfl (wanted_of (o1 := (opsY 18)[10]'(by rw [sizeY18]; decide)) rfl rfl rfl (hS11.get (by simp [setS]))) rfl (by omega) (run_mv (x := .tmp 16) (.inl rfl) (hS11.ev (by simp [setS]))) fun t12 hS12 => ?_
  refine wo_vl hS12 (o := (opsY 18)[12]'(by rw [sizeY18]; decide)) 93 (.int .i64 (1 : Nat)) rfl (wanted_of (o1 := (opsY 18)[10]'(by rw [sizeY18]; decide)) rfl rfl rfl (hS12.get (by simp [setS]))) rfl (by omega) (run_len (x := .tmp 92) (ty := 30) (el := 41) rfl Try.underlying30 p3 1 c3 (hS12.ev (by simp [setS]))) fun t13 hS13 => ?_
  refine wo_vl hS13 (o := (opsY 18)[13]'(by rw [sizeY18]; decide)) 94 (.bool true) rfl (wanted_of (o1 := (opsY 18)[10]'(by rw [sizeY18]; decide)) rfl rfl rfl (hS13.get (by simp [setS]))) rfl (by omega) (run_eq0 (x := .tmp 93) (y := .const (.int .i64 1)) (T := 3) rfl 1 (hS13.ev (by simp [setS])) rfl) fun t14 hS14 => ?_
  refine wo_vl hS14 (o := (opsY 18)[14]'(by rw [sizeY18]; decide)) 95 (.bool true) rfl rfl rfl (by omega) (run_pick (c := .tmp 91) (x := .tmp 94) (y := .const (.bool false)) rfl (hS14.ev (by simp [setS])) (hS14.ev (by simp [setS]))) fun t15 hS15 => ?_
  refine wo_mv hS15 (o := (opsY 18)[15]'(by rw [sizeY18]; decide)) 95 96 (.bool true) rfl (.inl rfl) rfl rfl (by omega) (by simp [setS]) fun t16 hS16 => ?_
  refine wo_vl hS16 (o := (opsY 18)[16]'(by rw [sizeY18]; decide)) 97 r1 rfl (wanted_of (o1 := (opsY 18)[15]'(by rw [sizeY18]; decide)) rfl rfl rfl (hS16.get (by simp [setS]))) rfl (by omega) (run_mv (x := .tmp 12) (.inl rfl) (hS16.ev (by simp [setS]))) fun t17 hS17 => ?_
  refine wo_vl hS17 (o := (opsY 18)[17]'(by rw [sizeY18]; decide)) 98 r2 rfl (wanted_of (o1 := (opsY 18)[15]'(by rw [sizeY18]; decide)) rfl rfl rfl (hS17.get (by simp [setS]))) rfl (by omega) (run_mv (x := .tmp 14) (.inl rfl) (hS17.ev (by simp [setS]))) fun t18 hS18 => ?_
  refine wo_callG hS18 (o := (opsY 18)[18]'(by rw [sizeY18]; decide)) 99 15 #[r1, r2] (fun u _ => u = .bool true) rfl (wanted_of (o1 := (opsY 18)[15]'(by rw [sizeY18]; decide)) rfl rfl rfl (hS18.get (by simp [setS]))) rfl (by omega) (enterY18 ⟨t18, []⟩ _ _ _ (hS18.ev (by simp [setS])) (hS18.ev (by simp [setS]))) ?_ ?_
  · refine (keep.same_any r1 r2 L hl w h1 h2).mono ?_
    rintro e w3 ⟨rfl, _⟩
    exact ⟨_, rfl, rfl⟩
  rintro u w4 t19 rfl hS19
  refine wo_vl hS19 (o := (opsY 18)[19]'(by rw [sizeY18]; decide)) 100 (.bool true) rfl rfl rfl (by omega) (run_pick (c := .tmp 96) (x := .tmp 99) (y := .const (.bool false)) rfl (hS19.ev (by simp [setS])) (hS19.ev (by simp [setS]))) fun t20 hS20 => ?_
  refine wo_mv hS20 (o := (opsY 18)[20]'(by rw [sizeY18]; decide)) 100 4 (.bool true) rfl (.inr rfl) rfl rfl (by omega) (by simp [setS]) fun t21 hS21 => ?_
  exact wo_nil (K t21 w4 (hS21.sub (by simp [setS])))

variable [Shift]
set_option maxHeartbeats 800000 in
theorem tail5_mi (hP : OkP Try.prog S0 V0) {post : Value → World → Prop} {B : Nat} (t : Array Value) (w : World) (ev ov : Value) (a : Int) (n : Nat) (es os : List (List Plain.En)) (hn : n ≤ 12) (he : es.length = n) (ho : os.length = n) (hm : ∀ l ∈ os, l ∈ es) (h6 : ∀ l ∈ es, Plain.Six l)
    (hS : Sl t 101 (LZ ev (.int .i64 a) ov n n)) (hE : RwL w B ev es) (hR : RwL w B ov os) (hB : B ≤ w.heap.size) (hpost : ∀ w', post (.bool true) w') :
    MI Try.prog S0 V0 (.main post) ⟨none, none, []⟩ (bare 5 t) [] [.code tail5] [] w := by
  have hA1 : Plain.allA es = (Plain.uni es, 0) := Plain.allA_six (by omega) h6
  have h62 : ∀ l ∈ os ++ es, Plain.Six l := fun l hl => (List.mem_append.1 hl).elim (fun q => h6 l (hm l q)) (h6 l)
  have hA2 : Plain.allA (os ++ es) = (Plain.uni es, 0) := by
    rw [Plain.allA_six (by rw [List.length_append]; omega) h62, Plain.uni_more hm h6]
  have hA3 : Plain.allA [[], [e3]] = ([e3], 0) := by
    rw [Plain.allA_six (by simp) fun l hl => by
      simp only [List.mem_cons, List.not_mem_nil, or_false] at hl
      rcases hl with rfl | rfl
      · exact Plain.six_nil
      · exact e3_six]
    have : Plain.uni [[], [e3]] = [e3] := Plain.nil_merge (a := [e3]) (List.pairwise_singleton _ _)
    rw [this]
  rw [tail5_is]
  refine MI.seq (MI.reg (r := [0, 1, 2, 3, 4, 5, 6]) (by rw [sizeY15]; rfl) ?_)
  refine MI.mv hS (o := (opsY 15)[0]'(by rw [sizeY15]; decide)) 5 63 ev rfl (.inl rfl) rfl rfl (by omega) (by simp [LZ]) fun t1 U1 hS1 => ?_
  have k1 : Kx w (onT w U1) := Kx.onT w U1
  refine callA_mi hP hS1 (o := (opsY 15)[1]'(by rw [sizeY15]; decide)) 63 64 ev es rfl rfl rfl (by omega) (by simp [setS]) enterY15 (six_lens h6) (by omega) ((hE.kx k1).lso) fun t2 w2 r1 hS2 hH1 k2 => ?_
  rw [hA1] at hS2 hH1
  refine MI.mv hS2 (o := (opsY 15)[2]'(by rw [sizeY15]; decide)) 64 62 (.tuple #[r1, .int .i64 (0 : Nat)]) rfl (.inl rfl) rfl rfl (by omega) (by simp [setS]) fun t3 U3 hS3 => ?_
  refine MI.vl hS3 (o := (opsY 15)[3]'(by rw [sizeY15]; decide)) 65 r1 rfl rfl rfl (by omega) (by kernel_rfl) (fun T => run_ext (x := .tmp 62) (j := 0) (vs := #[r1, .int .i64 (0 : Nat)]) rfl (hS3.ev (by simp [setS])) rfl) fun t4 U4 hS4 => ?_
  refine MI.vl hS4 (o := (opsY 15)[4]'(by rw [sizeY15]; decide)) 66 (.int .i64 (0 : Nat)) rfl rfl rfl (by omega) (by kernel_rfl) (fun T => run_ext (x := .tmp 62) (j := 1) (vs := #[r1, .int .i64 (0 : Nat)]) rfl (hS4.ev (by simp [setS])) rfl) fun t5 U5 hS5 => ?_
  refine MI.mv hS5 (o := (opsY 15)[5]'(by rw [sizeY15]; decide)) 65 12 r1 rfl (.inr rfl) rfl rfl (by omega) (by simp [setS]) fun t6 U6 hS6 => ?_
  refine MI.mv hS6 (o := (opsY 15)[6]'(by rw [sizeY15]; decide)) 66 13 (.int .i64 (0 : Nat)) rfl (.inr rfl) rfl rfl (by omega) (by simp [setS]) fun t7 U7 hS7 => MI.regE ?_
  have hS7' : Sl t7 101 [(5, ev), (10, ov), (12, r1), (13, .int .i64 0)] := hS7.sub (by simp [setS, LZ])
  clear hS hS1 hS2 hS3 hS4 hS5 hS6 hS7
  obtain ⟨w7, hw7⟩ : ∃ w7, w7 = onT (onT (onT (onT (onT w2 U3) U4) U5) U6) U7 := ⟨_, rfl⟩
  have k27 : Kx w2 w7 := by rw [hw7]; exact Kx.onT w2 U7
  rw [← hw7]
  clear hw7
  have kw7 : Kx w w7 := (k1.trans k2).trans k27
  have hB7 : B ≤ w7.heap.size := Nat.le_trans hB kw7.size
  refine MI.seq (MI.reg (r := [0, 1, 2, 3, 4, 5, 6, 7, 8]) (by rw [sizeY16]; rfl) ?_)
  refine MI.mv hS7' (o := (opsY 16)[0]'(by rw [sizeY16]; decide)) 10 68 ov rfl (.inl rfl) rfl rfl (by omega) (by simp) fun t8 U8 hS8 => ?_
  refine MI.mv hS8 (o := (opsY 16)[1]'(by rw [sizeY16]; decide)) 5 69 ev rfl (.inl rfl) rfl rfl (by omega) (by simp [setS]) fun t9 U9 hS9 => ?_
  refine MI.ow hS9 (o := (opsY 16)[2]'(by rw [sizeY16]; decide)) 70 rfl rfl rfl (by omega) (by kernel_rfl) fun T => ?_
  obtain ⟨w9, hw9⟩ : ∃ w9, w9 = retape (onT (onT w7 U8) U9) T := ⟨_, rfl⟩
  have k9 : Kx w7 w9 := .heap (by rw [hw9]; rfl)
  rw [← hw9]
  clear hw9
  have hE9 := (hE.kx kw7).kx k9
  have hR9 := (hR.kx kw7).kx k9
  have hbk := hR9.blk
  obtain ⟨re, hOe, hre⟩ := hE9
  obtain ⟨ro, hOo, hro⟩ := hR9
  obtain ⟨v', w', q1, q2, q3⟩ := run_app2 (e := Act.eval ⟨t9, []⟩) (o := (opsY 16)[2]'(by rw [sizeY16]; decide)) (x := .tmp 68) (y := .tmp 69) rfl hOo hOe (RwL.one hOe hre) (by omega) (Nat.le_trans hB7 k9.size) (hS9.ev (by simp [setS])) (hS9.ev (by simp [setS]))
  refine ⟨v', w', q1, fun t10 hS10 => ?_⟩
  have g' : Gr ov.ownBlock w9 w' := ⟨q3.size, q3.block⟩
  have hRow : RwL w' B v' (os ++ es) := RwL.mk q2 (by have := hOo.1; omega) (fun i hi => by
    obtain ⟨r, p1, p2⟩ := hro i hi
    exact ⟨r, p1, p2.gr g' hbk⟩) fun i hi => by
    obtain ⟨r, p1, p2⟩ := hre i hi
    exact ⟨r, p1, p2.gr g' hbk⟩
  have hH1' : HeldN w' r1 (Plain.uni es) := ((hH1.kx k27).kx k9).gr g' hbk
  refine callA_mi hP hS10 (o := (opsY 16)[3]'(by rw [sizeY16]; decide)) 70 71 v' (os ++ es) rfl rfl rfl (by omega) (by simp [setS]) enterY16 (six_lens h62) (by rw [List.length_append]; omega) hRow.lso fun t11 w11 r2 hS11 hH2 k11 => ?_
  rw [hA2] at hS11 hH2
  refine MI.mv hS11 (o := (opsY 16)[4]'(by rw [sizeY16]; decide)) 71 67 (.tuple #[r2, .int .i64 (0 : Nat)]) rfl (.inl rfl) rfl rfl (by omega) (by simp [setS]) fun t12 U12 hS12 => ?_
  refine MI.vl hS12 (o := (opsY 16)[5]'(by rw [sizeY16]; decide)) 72 r2 rfl rfl rfl (by omega) (by kernel_rfl) (fun T => run_ext (x := .tmp 67) (j := 0) (vs := #[r2, .int .i64 (0 : Nat)]) rfl (hS12.ev (by simp [setS])) rfl) fun t13 U13 hS13 => ?_
  refine MI.vl hS13 (o := (opsY 16)[6]'(by rw [sizeY16]; decide)) 73 (.int .i64 (0 : Nat)) rfl rfl rfl (by omega) (by kernel_rfl) (fun T => run_ext (x := .tmp 67) (j := 1) (vs := #[r2, .int .i64 (0 : Nat)]) rfl (hS13.ev (by simp [setS])) rfl) fun t14 U14 hS14 => ?_
  refine MI.mv hS14 (o := (opsY 16)[7]'(by rw [sizeY16]; decide)) 72 14 r2 rfl (.inr rfl) rfl rfl (by omega) (by simp [setS]) fun t15 U15 hS15 => ?_
  refine MI.mv hS15 (o := (opsY 16)[8]'(by rw [sizeY16]; decide)) 73 15 (.int .i64 (0 : Nat)) rfl (.inr rfl) rfl rfl (by omega) (by simp [setS]) fun t16 U16 hS16 => MI.regE ?_
  have hS16' : Sl t16 101 [(12, r1), (13, .int .i64 0), (14, r2), (15, .int .i64 0)] := hS16.sub (by simp [setS])
  clear hS7' hS8 hS9 hS10 hS11 hS12 hS13 hS14 hS15 hS16
  obtain ⟨w16, hw16⟩ : ∃ w16, w16 = onT (onT (onT (onT (onT w11 U12) U13) U14) U15) U16 := ⟨_, rfl⟩
  have k16 : Kx w11 w16 := by rw [hw16]; exact Kx.onT w11 U16
  rw [← hw16]
  clear hw16
  have hI1 : HeldN w16 r1 (Plain.uni es) := (hH1'.kx k11).kx k16
  have hI2 : HeldN w16 r2 (Plain.uni es) := hH2.kx k16
  refine MI.seq (MI.reg (r := [0, 1, 2, 3, 4, 5, 6, 7, 8]) (by rw [sizeY17]; rfl) ?_)
  refine MI.vl hS16' (o := (opsY 17)[0]'(by rw [sizeY17]; decide)) 75 (.agg #[.int .i64 3, .int .i64 0, .int .i64 0, .int .i64 0, .bool false]) rfl rfl rfl (by omega) (by kernel_rfl) (fun T => run_b41 rfl rfl) fun t17 U17 hS17 => ?_
  refine MI.ow hS17 (o := (opsY 17)[1]'(by rw [sizeY17]; decide)) 76 rfl rfl rfl (by omega) (by kernel_rfl) fun T1 => ?_
  refine ⟨_, _, run_bs5 (s := 75) rfl (hS17.ev (by simp [setS])), fun t18 hS18 => ?_⟩
  obtain ⟨g1, hg1⟩ : ∃ g1, g1 = (retape (onT w16 U17) T1).heap.size := ⟨_, rfl⟩
  rw [← hg1] at hS18
  obtain ⟨w18, hw18⟩ : ∃ w18, w18 = (retape (onT w16 U17) T1).alloc (.cells #[.int .i64 3, .int .i64 0, .int .i64 0, .int .i64 0, .bool false] 41 (0, 0)) := ⟨_, rfl⟩
  have h18 : w18.heap = w16.heap.push (.cells #[.int .i64 3, .int .i64 0, .int .i64 0, .int .i64 0, .bool false] 41 (0, 0)) := by rw [hw18]; rfl
  have eg1 : g1 = w16.heap.size := by rw [hg1]; rfl
  rw [← hw18]
  clear hw18 hg1
  have k18 : Kx w16 w18 := ⟨by rw [h18]; simp, fun x hx => by rw [h18, Array.getElem?_push, if_neg (by omega)]⟩
  refine MI.ow hS18 (o := (opsY 17)[2]'(by rw [sizeY17]; decide)) 77 rfl rfl rfl (by omega) (by kernel_rfl) fun T2 => ?_
  refine ⟨_, _, run_bs2 (s := 76) (p := some ⟨g1, 0, none⟩) (n := 1) (c := 1) rfl rfl (hS18.ev (by simp [setS])), fun t19 hS19 => ?_⟩
  obtain ⟨g2, hg2⟩ : ∃ g2, g2 = (retape w18 T2).heap.size := ⟨_, rfl⟩
  rw [← hg2] at hS19
  obtain ⟨w19, hw19⟩ : ∃ w19, w19 = (retape w18 T2).alloc (.cells #[.slice none 0 0, .slice (some ⟨g1, 0, none⟩) 1 1] 30 (0, 0)) := ⟨_, rfl⟩
  have h19 : w19.heap = w18.heap.push (.cells #[.slice none 0 0, .slice (some ⟨g1, 0, none⟩) 1 1] 30 (0, 0)) := by rw [hw19]; rfl
  have eg2 : g2 = w18.heap.size := by rw [hg2]; rfl
  rw [← hw19]
  clear hw19 hg2
  have k19 : Kx w18 w19 := ⟨by rw [h19]; simp, fun x hx => by rw [h19, Array.getElem?_push, if_neg (by omega)]⟩
  have b1 : w19.heap[g1]? = some (.cells #[.int .i64 3, .int .i64 0, .int .i64 0, .int .i64 0, .bool false] 41 (0, 0)) := by
    rw [k19.block g1 (by rw [eg1, h18]; simp), h18, eg1, Array.getElem?_push]; simp
  have b2 : w19.heap[g2]? = some (.cells #[.slice none 0 0, .slice (some ⟨g1, 0, none⟩) 1 1] 30 (0, 0)) := by
    rw [h19, eg2, Array.getElem?_push]; simp
  have s1 : g1 < w19.heap.size := (Array.getElem?_eq_some_iff.1 b1).1
  have s2 : g2 < w19.heap.size := (Array.getElem?_eq_some_iff.1 b2).1
  have hL : LsO w19 (.slice (some ⟨g2, 0, none⟩) 2 2) [[], [e3]] := .inr ⟨g2, 0, 2, rfl, Nat.le_refl _, rfl, s2, fun j hj => by
    have : j = 0 ∨ j = 1 := by simp at hj; omega
    rcases this with rfl | rfl
    · exact ⟨_, cell_is b2 rfl, SegN.nil _, trivial⟩
    · refine ⟨_, cell_is b2 rfl, .inr ⟨g1, 0, 1, rfl, Nat.le_refl _, fun i hi => ?_⟩, s1⟩
      obtain rfl : i = 0 := by simp at hi; omega
      exact ⟨cell_is b1 rfl, cell_is b1 rfl, cell_is b1 rfl, cell_is b1 rfl, cell_is b1 rfl⟩⟩
  refine callA_mi hP hS19 (o := (opsY 17)[3]'(by rw [sizeY17]; decide)) 77 78 (.slice (some ⟨g2, 0, none⟩) 2 2) [[], [e3]] rfl rfl rfl (by omega) (by simp [setS]) enterY17 (six_lens fun l hl => by
      simp only [List.mem_cons, List.not_mem_nil, or_false] at hl
      rcases hl with rfl | rfl
      · exact Plain.six_nil
      · exact e3_six) (by simp) hL fun t20 w20 r3 hS20 hH3 k20 => ?_
  rw [hA3] at hS20 hH3
  refine MI.mv hS20 (o := (opsY 17)[4]'(by rw [sizeY17]; decide)) 78 74 (.tuple #[r3, .int .i64 (0 : Nat)]) rfl (.inl rfl) rfl rfl (by omega) (by simp [setS]) fun t21 U21 hS21 => ?_
  refine MI.vl hS21 (o := (opsY 17)[5]'(by rw [sizeY17]; decide)) 79 r3 rfl rfl rfl (by omega) (by kernel_rfl) (fun T => run_ext (x := .tmp 74) (j := 0) (vs := #[r3, .int .i64 (0 : Nat)]) rfl (hS21.ev (by simp [setS])) rfl) fun t22 U22 hS22 => ?_
  refine MI.vl hS22 (o := (opsY 17)[6]'(by rw [sizeY17]; decide)) 80 (.int .i64 (0 : Nat)) rfl rfl rfl (by omega) (by kernel_rfl) (fun T => run_ext (x := .tmp 74) (j := 1) (vs := #[r3, .int .i64 (0 : Nat)]) rfl (hS22.ev (by simp [setS])) rfl) fun t23 U23 hS23 => ?_
  refine MI.mv hS23 (o := (opsY 17)[7]'(by rw [sizeY17]; decide)) 79 16 r3 rfl (.inr rfl) rfl rfl (by omega) (by simp [setS]) fun t24 U24 hS24 => ?_
  refine MI.mv hS24 (o := (opsY 17)[8]'(by rw [sizeY17]; decide)) 80 17 (.int .i64 (0 : Nat)) rfl (.inr rfl) rfl rfl (by omega) (by simp [setS]) fun t25 U25 hS25 => MI.regE ?_
  have hS25' : Sl t25 101 [(12, r1), (13, .int .i64 0), (14, r2), (15, .int .i64 0), (16, r3), (17, .int .i64 0)] := hS25.sub (by simp [setS])
  clear hS16' hS17 hS18 hS19 hS20 hS21 hS22 hS23 hS24 hS25
  refine MI.seq (MI.reg (r := [0, 1, 2, 3, 4, 5, 6, 7, 8, 9, 10, 11, 12, 13, 14, 15, 16, 17, 18, 19, 20]) (by rw [sizeY18]; rfl) ?_)
  refine MI.fragR hP okY18 fun T3 => ?_
  obtain ⟨w26, hw26⟩ : ∃ w26, w26 = retape (onT (onT (onT (onT (onT w20 U21) U22) U23) U24) U25) T3 := ⟨_, rfl⟩
  have k26 : Kx w20 w26 := .heap (by rw [hw26]; rfl)
  rw [← hw26]
  clear hw26
  have kk : Kx w16 w26 := ((k18.trans k19).trans k20).trans k26
  have l8 : (Plain.uni es).length ≤ 1000 := by have := (Plain.uni_six h6).len; omega
  refine end18_wp t25 w26 r1 r2 r3 (Plain.uni es) l8 hS25' (hI1.kx kk).seg (hI2.kx kk).seg (hH3.kx k26).seg fun t27 w27 hS27 => ?_
  refine ⟨rfl, rfl, fun U => ?_⟩
  refine MI.toret (.inr ⟨[], rfl⟩) ?_
  refine MI.fin (fn := Try.f5) (v := .bool true) Try.func5 (by kernel_rfl) (fun w0 => ?_) (hpost _)
  have g2 : t27.getD 4 undef = .bool true := by
    have := hS27.get (s := 4) (v := .bool true) (by simp)
    rw [Array.getD_eq_getD_getElem?, this]
    rfl
  rw [results_tmp (fn := Try.f5) (t := 4) rfl, g2]
end Go.Proofs.Ytcobehkadhcjiaa

/-
  keep.CrewAny: the first's tree.
-/
namespace Go.Proofs.Ytcobehkadhcjiaa
open Go Go.Conc Go.RowKit Go.Sort Go.Shelf

variable [Shift]
theorem any_mi (hP : OkP Try.prog S0 V0) {post : Value → World → Prop} (t : Array Value) (w : World) (v : Value) (a : Int) (ns : List (List Plain.En)) (hls : ∀ j, (ns.getD j []).length ≤ 9223372036854775807) (hin : ∀ j, j < ns.length → ∀ i, i < (ns.getD j []).length → InE (Plain.en (ns.getD j []) i))
    (ha1 : -9223372036854775808 ≤ a) (ha2 : a ≤ 9223372036854775807) (hz : t.size = 101) (h0 : t[0]? = some v) (h1 : t[1]? = some (.int .i64 a)) (hL : LsO w v ns) (hpost : ∀ w', post (.bool true) w') :
    MI Try.prog S0 V0 (.main post) ⟨none, none, []⟩ (bare 5 t) [] [.code body5] [] w := by
  have hS : Sl t 101 [(0, v), (1, .int .i64 a)] := ⟨hz, fun p hp => by
    simp only [List.mem_cons, List.not_mem_nil, or_false] at hp
    rcases hp with rfl | rfl
    · exact h0
    · exact h1⟩
  have hLB : LsOB w.heap.size w v ns := by
    rcases hL with h | ⟨b, off, c, e, _, h⟩
    · exact .inl h
    · exact .inr ⟨b, off, c, e, h⟩
  rw [body5_is]
  refine MI.seq (MI.reg (r := [0]) (by rw [sizeY0]; rfl) ?_)
  refine MI.cst hS (o := (opsY 0)[0]'(by rw [sizeY0]; decide)) 4 (.bool false) rfl (.inr rfl) rfl rfl (by omega) (by rfl) fun t1 U1 hS1 => MI.regE ?_
  refine MI.seq (MI.reg (r := [0]) (by rw [sizeY1]; rfl) ?_)
  refine MI.cst hS1 (o := (opsY 1)[0]'(by rw [sizeY1]; decide)) 5 (.slice none 0 0) rfl (.inr rfl) rfl rfl (by omega) (by rfl) fun t2 U2 hS2 => MI.regE ?_
  refine MI.seq (MI.seq (MI.reg (r := [0]) (by rw [sizeY2]; rfl) ?_))
  refine MI.cst hS2 (o := (opsY 2)[0]'(by rw [sizeY2]; decide)) 6 (.int .i64 0) rfl (.inr rfl) rfl rfl (by omega) (by rfl) fun t3 U3 hS3 => MI.regE ?_
  refine MI.ctl (k1 := .code (.loop rndY1) :: .inBlock 0 :: .code after5 :: []) (fun _ _ _ _ _ => stepG_block) ?_
  refine MI.ctl (k1 := .code rndY1 :: .inLoop rndY1 :: .inBlock 0 :: .code after5 :: []) (fun _ _ _ _ _ => stepG_loop) ?_
  obtain ⟨wa, hwa⟩ : ∃ wa, wa = onT (onT (onT w U1) U2) U3 := ⟨_, rfl⟩
  have ha : wa.heap = w.heap := by rw [hwa]; rfl
  rw [← hwa]
  clear hwa
  refine loopY1_mi (B := w.heap.size) hP ns v (.int .i64 a) hls hin (min ns.length 12) t3 wa (.slice none 0 0) 0 (by omega) (hS3.sub (by simp [setS, LY])) (RwL.nil _ _) (hLB.keep (KeepB.of_ex (by rw [ha]; exact Nat.le_refl _) fun x _ => by rw [ha])) (by rw [ha]; exact Nat.le_refl _) fun t4 w4 ev hS4 hR4 hB4 x4 => ?_
  have hn : min ns.length 12 ≤ 12 := by omega
  have he : (Plain.els ns (min ns.length 12)).length = min ns.length 12 := Plain.els_length (by omega)
  have h6 : ∀ l ∈ Plain.els ns (min ns.length 12), Plain.Six l := Plain.els_six
  generalize min ns.length 12 = n at *
  generalize Plain.els ns n = es at *
  obtain ⟨p, c, rfl⟩ := hR4.slv
  rw [he] at hS4 hR4
  rw [after5_is]
  refine MI.seq (MI.reg (r := [0, 1, 2]) (by rw [sizeY9]; rfl) ?_)
  refine MI.mv hS4 (o := (opsY 9)[0]'(by rw [sizeY9]; decide)) 5 42 (.slice p n c) rfl (.inl rfl) rfl rfl (by omega) (by simp [LY]) fun t5 U5 hS5 => ?_
  refine MI.vl hS5 (o := (opsY 9)[1]'(by rw [sizeY9]; decide)) 43 (.int .i64 n) rfl rfl rfl (by omega) (by kernel_rfl) (fun T => run_len (x := .tmp 42) (ty := 29) (el := 30) rfl Try.underlying29 p n c (hS5.ev (by simp [setS]))) fun t6 U6 hS6 => ?_
  refine MI.mv hS6 (o := (opsY 9)[2]'(by rw [sizeY9]; decide)) 43 9 (.int .i64 n) rfl (.inr rfl) rfl rfl (by omega) (by simp [setS]) fun t7 U7 hS7 => MI.regE ?_
  refine MI.seq (MI.reg (r := [0]) (by rw [sizeY10]; rfl) ?_)
  refine MI.cst hS7 (o := (opsY 10)[0]'(by rw [sizeY10]; decide)) 10 (.slice none 0 0) rfl (.inr rfl) rfl rfl (by omega) (by rfl) fun t8 U8 hS8 => MI.regE ?_
  refine MI.seq (MI.seq (MI.reg (r := [0]) (by rw [sizeY11]; rfl) ?_))
  refine MI.cst hS8 (o := (opsY 11)[0]'(by rw [sizeY11]; decide)) 11 (.int .i64 0) rfl (.inr rfl) rfl rfl (by omega) (by rfl) fun t9 U9 hS9 => MI.regE ?_
  refine MI.ctl (k1 := .code (.loop rndY2) :: .inBlock 2 :: .code tail5 :: []) (fun _ _ _ _ _ => stepG_block) ?_
  refine MI.ctl (k1 := .code rndY2 :: .inLoop rndY2 :: .inBlock 2 :: .code tail5 :: []) (fun _ _ _ _ _ => stepG_loop) ?_
  obtain ⟨wb, hwb⟩ : ∃ wb, wb = onT (onT (onT (onT (onT w4 U5) U6) U7) U8) U9 := ⟨_, rfl⟩
  have kb : Kx w4 wb := by rw [hwb]; exact Kx.onT w4 U9
  rw [← hwb]
  clear hwb
  refine loopY2_mi (B := w.heap.size) hP (.slice p n c) a n es ha1 ha2 hn he n t9 wb (.slice none 0 0) 0 [] (by omega) rfl (fun l hl => by simp at hl) (hS9.sub (by simp [setS, LY, LZ])) (hR4.kx kb) (RwL.nil _ _) (Nat.le_trans hB4 kb.size) fun t10 w10 ov os ho hm hS10 hE10 hR10 hB10 x10 => ?_
  exact tail5_mi hP t10 w10 (.slice p n c) ov a n es os hn he ho hm h6 hS10 hE10 hR10 hB10 hpost
end Go.Proofs.Ytcobehkadhcjiaa
