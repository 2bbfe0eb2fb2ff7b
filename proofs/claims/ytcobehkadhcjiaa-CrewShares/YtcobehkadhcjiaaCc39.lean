/-
  Goroutines among others: part 39 of what the law's own text rests on.
-/
import Derived.Test.YtcobehkadhcjiaaCc38
/-
  keep.CrewShares: the first's tree.
-/
namespace Go.Proofs.Ytcobehkadhcjiaa
open Go Go.Conc Go.ConcN Go.Conc.Lib Go.RowKit Go.Shelf
open Go.ConcR (Payload)

theorem one_E : Bo.Plain.splitE 1 [3] = 0 := by decide
theorem one_V : Bo.Plain.splitV 1 [3] = [1] := by
  rw [Bo.Plain.splitV_ok one_E, Bo.Plain.split_of (L := 1) (r := 0) (fun w hw => by simp at hw; omega) (by decide) (by decide) (by decide) (by decide) (by decide)]
  decide
theorem one_splE : splE [1] [[3]] = 0 := splE_zero rfl (by decide) fun i hi => by
  have : i = 0 := by simp at hi; omega
  subst this
  exact one_E

variable [Shift] [Payload]
/-- An entry that lays a row of one cell. -/
theorem MJ.al {P : Program} {L : WgLink} {S V : FuncId → Bool} {ρ : Rj} {f : FuncId} {t : Array Value} {ops : Array Oper} {i : Nat} {rest : List Nat} {k : List Item} {cs : List Frame} {w : World} {n : Nat} {l : List (Nat × Value)} (hS : Sl t n l) {o : Oper} (d : Nat) (x : Value) (e : TypeId) (ho : ops[i]? = some o) (hd : o.dst = some d) (hg : o.guard = none) (hn : d < n) (hok : okOp P S o.op = true)
    (hr : ∀ W, (execOp (Act.eval ⟨t, []⟩) o).run P W = .ok (.value (.slice (some ⟨W.heap.size, 0, none⟩) 1 1)) (W.alloc (.cells #[x] e (0, 0))))
    (K : ∀ (t' : Array Value) (w' : World), Sl t' n (setS d (.slice (some ⟨w.heap.size, 0, none⟩) 1 1) l) → Kc w w' → w'.heap.size = w.heap.size + 1 → w'.cell? ⟨w.heap.size, 0, none⟩ = some x → MJ P L S V ρ (bare f t') [] (.inRegion ops rest :: k) cs w') : MJ P L S V ρ (bare f t) [] (.inRegion ops (i :: rest) :: k) cs w :=
  MJ.ow hS d ho hd hg hn hok fun T => ⟨_, _, hr _, fun t' hS' => K t' _ hS' ((Kc.heap rfl : Kc w (retape w T)).trans (Kc.alloc _ _)) (al_size (retape w T) _) (al_cell (retape w T) _ _ _ 0)⟩

set_option maxHeartbeats 1000000 in
theorem test18_mj (hP : OkP Try.prog S1 V1) {L : WgLink} {ρ : Rj} {kk : List Item} {cs : List Frame} {t : Array Value} {w : World} (g c : Nat) (v : Value) (hS : Sl t 112 [(13, .slice (some ⟨g, 0, none⟩) 1 c), (14, .int .i64 0)]) (hc : w.cell? ⟨g, 0 + 0, none⟩ = some v) (hv : Seg w v [1])
    (K : ∀ (t' : Array Value) (w' : World), Sl t' 112 [(4, .bool true)] → MJ Try.prog L S1 V1 ρ (bare 6 t') [] kk cs w') :
    MJ Try.prog L S1 V1 ρ (bare 6 t) [] (.code (.region 18 (opsY 18) false) :: kk) cs w := by
  refine MJ.reg (r := [0, 1, 2, 3, 4, 5, 6, 7, 8, 9, 10, 11, 12, 13, 14]) (by rw [sizeY18]; rfl) ?_
  refine MJ.fragR hP okY18 fun T => ?_
  obtain ⟨wT, hwT⟩ : ∃ wT, wT = retape w T := ⟨_, rfl⟩
  have kT : Kc w wT := Kc.heap (by rw [hwT]; rfl)
  rw [← hwT]
  clear hwT
  refine wo_vl hS (o := (opsY 18)[0]'(by rw [sizeY18]; decide)) 98 (.int .i64 0) rfl rfl rfl (by omega) (run_mv (x := .tmp 14) (.inl rfl) (hS.ev (by simp))) fun t1 h1 => ?_
  refine wo_vl h1 (o := (opsY 18)[1]'(by rw [sizeY18]; decide)) 99 (.bool true) rfl rfl rfl (by omega) (run_eql24 (x := .tmp 98) (y := .const (.int .i64 0)) rfl 0 0 (h1.ev (by simp [setS])) rfl) fun t2 h2 => ?_
  refine wo_vl h2 (o := (opsY 18)[2]'(by rw [sizeY18]; decide)) 100 (.bool true) rfl rfl rfl (by omega) (run_mv (x := .tmp 99) (.inl rfl) (h2.ev (by simp [setS]))) fun t3 h3 => ?_
  refine wo_vl h3 (o := (opsY 18)[3]'(by rw [sizeY18]; decide)) 101 (.slice (some ⟨g, 0, none⟩) 1 c) rfl (wanted_of (o1 := (opsY 18)[2]'(by rw [sizeY18]; decide)) rfl rfl rfl (h3.get (by simp [setS]))) rfl (by omega) (run_mv (x := .tmp 13) (.inl rfl) (h3.ev (by simp [setS]))) fun t4 h4 => ?_
  refine wo_vl h4 (o := (opsY 18)[4]'(by rw [sizeY18]; decide)) 102 (.int .i64 (1 : Nat)) rfl (wanted_of (o1 := (opsY 18)[2]'(by rw [sizeY18]; decide)) rfl rfl rfl (h4.get (by simp [setS]))) rfl (by omega) (run_len (x := .tmp 101) (ty := 23) (el := 22) rfl Try.underlying23 (some ⟨g, 0, none⟩) 1 c (h4.ev (by simp [setS]))) fun t5 h5 => ?_
  refine wo_vl h5 (o := (opsY 18)[5]'(by rw [sizeY18]; decide)) 103 (.bool true) rfl (wanted_of (o1 := (opsY 18)[2]'(by rw [sizeY18]; decide)) rfl rfl rfl (h5.get (by simp [setS]))) rfl (by omega) (run_eql3 (x := .tmp 102) (y := .const (.int .i64 1)) rfl (1 : Nat) 1 (h5.ev (by simp [setS])) rfl) fun t6 h6 => ?_
  refine wo_vl h6 (o := (opsY 18)[6]'(by rw [sizeY18]; decide)) 104 (.bool true) rfl rfl rfl (by omega) (run_pick (c := .tmp 100) (x := .tmp 103) (y := .const (.bool false)) rfl (h6.ev (by simp [setS])) (h6.ev (by simp [setS]))) fun t7 h7 => ?_
  refine wo_vl h7 (o := (opsY 18)[7]'(by rw [sizeY18]; decide)) 105 (.bool true) rfl rfl rfl (by omega) (run_mv (x := .tmp 104) (.inl rfl) (h7.ev (by simp [setS]))) fun t8 h8 => ?_
  refine wo_vl h8 (o := (opsY 18)[8]'(by rw [sizeY18]; decide)) 106 (.slice (some ⟨g, 0, none⟩) 1 c) rfl (wanted_of (o1 := (opsY 18)[7]'(by rw [sizeY18]; decide)) rfl rfl rfl (h8.get (by simp [setS]))) rfl (by omega) (run_mv (x := .tmp 13) (.inl rfl) (h8.ev (by simp [setS]))) fun t9 h9 => ?_
  refine wo_vl h9 (o := (opsY 18)[9]'(by rw [sizeY18]; decide)) 107 (.pointer (some ⟨g, 0 + 0, none⟩)) rfl (wanted_of (o1 := (opsY 18)[7]'(by rw [sizeY18]; decide)) rfl rfl rfl (h9.get (by simp [setS]))) rfl (by omega) (run_ix (x := .tmp 106) (y := .const (.int .i64 0)) (ty := 23) (el := 22) rfl Try.underlying23 (by kernel_rfl) g 0 1 c 0 (h9.ev (by simp [setS])) rfl (by decide)) fun ta ha => ?_
  refine wo_vl ha (o := (opsY 18)[10]'(by rw [sizeY18]; decide)) 108 v rfl (wanted_of (o1 := (opsY 18)[7]'(by rw [sizeY18]; decide)) rfl rfl rfl (ha.get (by simp [setS]))) rfl (by omega) (run_ld22 (x := .tmp 107) rfl _ _ (ha.ev (by simp [setS])) (kT.cell _ _ hc)) fun tb hb => ?_
  refine wo_al hb (o := (opsY 18)[11]'(by rw [sizeY18]; decide)) 109 (.slice (some ⟨wT.heap.size, 0, none⟩) 1 1) rfl (wanted_of (o1 := (opsY 18)[7]'(by rw [sizeY18]; decide)) rfl rfl rfl (hb.get (by simp [setS]))) rfl (by omega) (run_buildI (x := .const (.int .i64 1)) rfl 1 rfl) fun tc hc' => ?_
  obtain ⟨wz, hwz⟩ : ∃ wz, wz = wT.alloc (.cells #[.int .i64 1] 3 (0, 0)) := ⟨_, rfl⟩
  have kz : Kc wT wz := by rw [hwz]; exact Kc.alloc _ _
  have cz : wz.cell? ⟨wT.heap.size, 0, none⟩ = some (.int .i64 1) := by rw [hwz]; exact al_cell wT _ _ _ 0
  rw [← hwz]
  clear hwz
  have a1 : Act.eval ⟨tc, []⟩ (.tmp 108) = v := hc'.ev (by simp [setS])
  have a2 : Act.eval ⟨tc, []⟩ (.tmp 109) = .slice (some ⟨wT.heap.size, 0, none⟩) 1 1 := hc'.ev (by simp [setS])
  refine wo_call hc' (o := (opsY 18)[12]'(by rw [sizeY18]; decide)) 110 18 #[v, .slice (some ⟨wT.heap.size, 0, none⟩) 1 1] (fun u w1 => u = .bool true) rfl rfl (wanted_of (o1 := (opsY 18)[7]'(by rw [sizeY18]; decide)) rfl rfl rfl (hc'.get (by simp [setS]))) (by omega) ?_ ?_ ?_
  · rw [run_call (g := 18) (xs := #[.tmp 108, .tmp 109]) (tys := #[22, 22]) rfl rfl eg18]
    simp only [List.map_toArray, List.map_cons, List.map_nil, a1, a2]
  · refine (Bo.keep.same_any v _ [1] [1] (by decide) wz (hv.kc (kT.trans kz)) (.inr ⟨_, 0, 1, rfl, fun j hj => ?_⟩)).mono ?_
    · have : j = 0 := by simp at hj; omega
      subst this
      exact cz
    · rintro e w1 ⟨rfl, _⟩
      exact ⟨_, rfl, by rw [decide_eq_true rfl]⟩
  rintro u w1 td rfl hd
  refine wo_vl hd (o := (opsY 18)[13]'(by rw [sizeY18]; decide)) 111 (.bool true) rfl rfl rfl (by omega) (run_pick (c := .tmp 105) (x := .tmp 110) (y := .const (.bool false)) rfl (hd.ev (by simp [setS])) (hd.ev (by simp [setS]))) fun te he => ?_
  refine wo_vl he (o := (opsY 18)[14]'(by rw [sizeY18]; decide)) 4 (.bool true) rfl rfl rfl (by omega) (run_mv (x := .tmp 111) (.inr rfl) (he.ev (by simp [setS]))) fun tf hf => ?_
  exact wo_nil ⟨rfl, rfl, fun U => K _ _ (hf.sub (by simp [setS]))⟩

set_option maxHeartbeats 1000000 in
/-- Behind its second loop. -/
theorem end_mj (hP : OkP Try.prog S1 V1) {post : Value → World → Prop} {t : Array Value} {w : World} (hz : t.size = 112) (hlow : Shift.n ≤ w.heap.size) (hpay : Payload.ety = 24) (hpost : ∀ w', post (.bool true) w') :
    MJ Try.prog wgL S1 V1 (.main post ⟨none, false, none, []⟩) (bare 6 t) [] [.code (.seq (.region 17 (opsY 17) false) (.seq (.region 18 (opsY 18) false) .ret))] [] w := by
  have hS : Sl t 112 [] := ⟨hz, fun p hp => by simp at hp⟩
  refine MJ.seq (MJ.reg (r := [0, 1, 2, 3, 4, 5, 6, 7, 8]) (by rw [sizeY17]; rfl) ?_)
  refine MJ.al hS (o := (opsY 17)[0]'(by rw [sizeY17]; decide)) 92 (.int .i64 1) 3 rfl rfl rfl (by omega) (by kernel_rfl) (fun W => run_buildI (x := .const (.int .i64 1)) rfl 1 rfl) fun t1 w1 hS1 k1 s1 c1 => ?_
  refine MJ.al hS1 (o := (opsY 17)[1]'(by rw [sizeY17]; decide)) 93 (.int .i64 3) 3 rfl rfl rfl (by omega) (by kernel_rfl) (fun W => run_buildI (x := .const (.int .i64 3)) rfl 3 rfl) fun t2 w2 hS2 k2 s2 c2 => ?_
  refine MJ.al hS2 (o := (opsY 17)[2]'(by rw [sizeY17]; decide)) 94 (.slice (some ⟨w1.heap.size, 0, none⟩) 1 1) 22 rfl rfl rfl (by omega) (by kernel_rfl) (fun W => run_build1 (x := .tmp 93) rfl _ 1 1 (hS2.ev (by simp [setS]))) fun t3 w3 hS3 k3 s3 c3 => ?_
  refine MJ.enter (o := (opsY 17)[3]'(by rw [sizeY17]; decide)) (h := 7) (xs := #[.tmp 92, .tmp 94]) (fn := Try.f7) (c := body7) rfl rfl (by kernel_rfl) Try.func7 rfl (run_enter rfl Try.func7 name7 rfl) ?_
  have exs : (#[Operand.tmp 92, .tmp 94] : Array Operand).map (Act.eval ⟨t3, []⟩) = #[.slice (some ⟨w.heap.size, 0, none⟩) 1 1, .slice (some ⟨w2.heap.size, 0, none⟩) 1 1] := by
    have q1 := hS3.ev (s := 92) (v := .slice (some ⟨w.heap.size, 0, none⟩) 1 1) (by simp [setS])
    have q2 := hS3.ev (s := 94) (v := .slice (some ⟨w2.heap.size, 0, none⟩) 1 1) (by simp [setS])
    simp only [List.map_toArray, List.map_cons, List.map_nil, q1, q2]
  rw [exs, show (#[Operand.tmp 92, .tmp 94] : Array Operand).size = 2 from rfl, frame7]
  refine splits_mj hP _ 1 1 _ 1 1 [1] [[3]] w3 rfl rfl (.inr ⟨w.heap.size, 0, 1, rfl, fun j hj => ?_⟩) ⟨fun j hj => ?_⟩ (fun j => ?_) (by omega) hpay fun t4 w4 r z4 e4 e5 hO k4 => ?_
  · have : j = 0 := by simp at hj; omega
    subst this
    exact (k2.trans k3).cell _ _ c1
  · have : j = 0 := by simp at hj; omega
    subst this
    refine ⟨w2.heap.size, 0, .slice (some ⟨w1.heap.size, 0, none⟩) 1 1, rfl, c3, .inr ⟨w1.heap.size, 0, 1, rfl, fun i hi => ?_⟩, lies_at (by omega)⟩
    have : i = 0 := by simp at hi; omega
    subst this
    exact k3.cell _ _ c2
  · rcases j with _ | j
    · decide
    · exact Nat.zero_le _
  rw [one_splE] at e5
  obtain ⟨g, cc, rfl, hT⟩ := hO.2 one_splE
  refine MJ.ret (fn := Try.f7) (v := .tuple #[.slice (some ⟨g, 0, none⟩) 1 cc, .int .i64 0]) (o := (opsY 17)[3]'(by rw [sizeY17]; decide)) Try.func7 (fun w0 => ?_) rfl ?_
  · have g2 : t4.getD 4 undef = .slice (some ⟨g, 0, none⟩) 1 cc := by rw [Array.getD_eq_getD_getElem?, e4]; rfl
    have g3 : t4.getD 5 undef = .int .i64 0 := by rw [Array.getD_eq_getD_getElem?, e5]; rfl
    rw [results_tmp2 (fn := Try.f7) (t := 4) (u := 5) rfl, g2, g3]
  have hS4 := hS3.put (d := 95) (by omega) (.tuple #[.slice (some ⟨g, 0, none⟩) 1 cc, .int .i64 0])
  refine MJ.mv hS4 (o := (opsY 17)[4]'(by rw [sizeY17]; decide)) 95 91 (.tuple #[.slice (some ⟨g, 0, none⟩) 1 cc, .int .i64 0]) rfl (.inl rfl) rfl rfl (by omega) (by simp [setS]) fun t5 U5 hS5 => ?_
  refine MJ.vl hS5 (o := (opsY 17)[5]'(by rw [sizeY17]; decide)) 96 (.slice (some ⟨g, 0, none⟩) 1 cc) rfl rfl rfl (by omega) (by kernel_rfl) (fun T => run_ext (x := .tmp 91) (i := 0) rfl #[.slice (some ⟨g, 0, none⟩) 1 cc, .int .i64 0] _ (hS5.ev (by simp [setS])) rfl) fun t6 U6 hS6 => ?_
  refine MJ.vl hS6 (o := (opsY 17)[6]'(by rw [sizeY17]; decide)) 97 (.int .i64 0) rfl rfl rfl (by omega) (by kernel_rfl) (fun T => run_ext (x := .tmp 91) (i := 1) rfl #[.slice (some ⟨g, 0, none⟩) 1 cc, .int .i64 0] _ (hS6.ev (by simp [setS])) rfl) fun t7 U7 hS7 => ?_
  refine MJ.mv hS7 (o := (opsY 17)[7]'(by rw [sizeY17]; decide)) 96 13 (.slice (some ⟨g, 0, none⟩) 1 cc) rfl (.inr rfl) rfl rfl (by omega) (by simp [setS]) fun t8 U8 hS8 => ?_
  refine MJ.mv hS8 (o := (opsY 17)[8]'(by rw [sizeY17]; decide)) 97 14 (.int .i64 0) rfl (.inr rfl) rfl rfl (by omega) (by simp [setS]) fun t9 U9 hS9 => MJ.regE ?_
  obtain ⟨b, off, v, hb, hcell, hseg, _⟩ := hT.at_ 0 (by decide)
  injection hb with hb
  injection hb with e1 e2
  subst e1 e2
  rw [spR_at (by decide)] at hseg
  have hseg' : Seg w4 v [1] := by rw [← one_V]; exact hseg
  refine MJ.seq (test18_mj hP g cc v (hS9.sub (by simp [setS])) hcell (hseg'.kc (Kc.heap rfl)) fun ta wa hSa => ?_)
  refine MJ.toret (.inr ⟨[], rfl⟩) ?_
  refine MJ.fin (fn := Try.f6) (v := .bool true) Try.func6 (by kernel_rfl) (fun w0 => ?_) (hpost _)
  have g2 : ta.getD 4 undef = .bool true := by
    have := hSa.get (s := 4) (v := .bool true) (by simp)
    rw [Array.getD_eq_getD_getElem?, this]
    rfl
  rw [results_tmp (fn := Try.f6) (t := 4) rfl, g2]

set_option maxHeartbeats 1000000 in
theorem law6_mj (hP : OkP Try.prog S1 V1) {post : Value → World → Prop} (t : Array Value) {D : DA} (hD : OkA D) (hlow : Shift.n ≤ D.W0.heap.size) (hpay : Payload.ety = 24) (hz : t.size = 112) (h0 : t[0]? = some (.slice D.pa D.n D.ca)) (h1 : t[1]? = some (.slice D.pb D.m D.cb)) (hpost : ∀ w', post (.bool true) w') :
    MJ Try.prog wgL S1 V1 (.main post ⟨none, false, none, []⟩) (bare 6 t) [] [.code body6] [] D.W0 := by
  have hS : Sl t 112 [(0, .slice D.pa D.n D.ca), (1, .slice D.pb D.m D.cb)] := ⟨hz, fun p hp => by
    simp only [List.mem_cons, List.not_mem_nil, or_false] at hp
    rcases hp with rfl | rfl
    · exact h0
    · exact h1⟩
  rw [body6_is]
  refine MJ.seq (MJ.reg (r := [0]) (by rw [sizeY0]; rfl) ?_)
  refine MJ.cst hS (o := (opsY 0)[0]'(by rw [sizeY0]; decide)) 4 (.bool false) rfl (.inr rfl) rfl rfl (by omega) rfl fun t1 U1 hS1 => MJ.regE ?_
  refine MJ.seq (MJ.reg (r := [0]) (by rw [sizeY1]; rfl) ?_)
  refine MJ.cst hS1 (o := (opsY 1)[0]'(by rw [sizeY1]; decide)) 5 (.slice none 0 0) rfl (.inr rfl) rfl rfl (by omega) rfl fun t2 U2 hS2 => MJ.regE ?_
  refine MJ.seq (MJ.reg (r := [0]) (by rw [sizeY2]; rfl) ?_)
  refine MJ.cst hS2 (o := (opsY 2)[0]'(by rw [sizeY2]; decide)) 6 (.slice none 0 0) rfl (.inr rfl) rfl rfl (by omega) rfl fun t3 U3 hS3 => MJ.regE ?_
  refine MJ.seq (MJ.seq (MJ.reg (r := [0]) (by rw [sizeY3]; rfl) ?_))
  refine MJ.cst hS3 (o := (opsY 3)[0]'(by rw [sizeY3]; decide)) 7 (.int .i64 0) rfl (.inr rfl) rfl rfl (by omega) rfl fun t4 U4 hS4 => MJ.regE ?_
  refine MJ.ctl (k1 := .code (.loop lpA) :: .inBlock 0 :: .code (.seq (.region 8 (opsY 8) false) (.seq (.seq (.region 9 (opsY 9) false) (.cond (.tmp 61) (.seq (.region 10 (opsY 10) false) .ret) .skip)) (.seq (.seq (.region 11 (opsY 11) false) (.block 2 (.loop lpB))) (.seq (.region 17 (opsY 17) false) (.seq (.region 18 (opsY 18) false) .ret))))) :: []) (fun _ _ _ _ _ _ => stepG_block) ?_
  refine MJ.ctl (k1 := .code lpA :: .inLoop lpA :: .inBlock 0 :: .code (.seq (.region 8 (opsY 8) false) (.seq (.seq (.region 9 (opsY 9) false) (.cond (.tmp 61) (.seq (.region 10 (opsY 10) false) .ret) .skip)) (.seq (.seq (.region 11 (opsY 11) false) (.block 2 (.loop lpB))) (.seq (.region 17 (opsY 17) false) (.seq (.region 18 (opsY 18) false) .ret))))) :: []) (fun _ _ _ _ _ _ => stepG_loop) ?_
  refine loopA_mj hP hD 12 t4 _ 0 (.slice none 0 0) (.slice none 0 0) [] (by omega) ⟨hS4.sub (by simp [setS, DA.sl]), Kx.heap rfl, World.ownsRow_nil _ _ _ _, World.ownsRow_nil _ _ _ _, fun i hi => absurd hi (Nat.not_lt_zero _)⟩ fun t5 w5 n tv uv xs hn hA => ?_
  obtain ⟨⟨pt, ct, rfl⟩, hT, pu, cu, rfl, hU⟩ := hA.out
  have hS5 := hA.sl
  have hlow5 : Shift.n ≤ w5.heap.size := Nat.le_trans hlow hA.kx.size
  clear hA hS hS1 hS2 hS3 hS4
  refine MJ.seq (MJ.reg (r := [0, 1, 2, 3, 4, 5, 6, 7]) (by rw [sizeY8]; rfl) ?_)
  refine MJ.mv hS5 (o := (opsY 8)[0]'(by rw [sizeY8]; decide)) 5 48 (.slice pt n ct) rfl (.inl rfl) rfl rfl (by omega) (by simp [DA.sl]) fun t6 U6 hS6 => ?_
  refine MJ.mv hS6 (o := (opsY 8)[1]'(by rw [sizeY8]; decide)) 6 49 (.slice pu n cu) rfl (.inl rfl) rfl rfl (by omega) (by simp [setS, DA.sl]) fun t7 U7 hS7 => ?_
  obtain ⟨wb, hwb⟩ : ∃ wb, wb = onT (onT w5 U6) U7 := ⟨_, rfl⟩
  have kb : Kc w5 wb := Kc.heap (by rw [hwb]; rfl)
  rw [← hwb]
  clear hwb
  refine MJ.enter (o := (opsY 8)[2]'(by rw [sizeY8]; decide)) (h := 7) (xs := #[.tmp 48, .tmp 49]) (fn := Try.f7) (c := body7) rfl rfl (by kernel_rfl) Try.func7 rfl (run_enter rfl Try.func7 name7 rfl) ?_
  have exs : (#[Operand.tmp 48, .tmp 49] : Array Operand).map (Act.eval ⟨t7, []⟩) = #[.slice pt n ct, .slice pu n cu] := by
    have q1 := hS7.ev (s := 48) (v := .slice pt n ct) (by simp [setS])
    have q2 := hS7.ev (s := 49) (v := .slice pu n cu) (by simp [setS])
    simp only [List.map_toArray, List.map_cons, List.map_nil, q1, q2]
  rw [exs, show (#[Operand.tmp 48, .tmp 49] : Array Operand).size = 2 from rfl, frame7]
  refine splits_mj hP pt n ct pu n cu (D.tk n) (D.uk n) wb (D.tk_len n) (D.uk_len n) (hT.kc kb) (hU.kc kb).tab (fun j => ?_) (Nat.le_trans hlow5 kb.size) hpay fun t8 w8 r z8 e4 e5 hO k8 => ?_
  · by_cases hj : j < n
    · rw [D.uk_at hj]
      have := Bo.Plain.wantL_len (D.ws.getD j [])
      omega
    · rw [List.getD_eq_getElem?_getD, List.getElem?_eq_none (by rw [D.uk_len]; omega)]
      exact Nat.zero_le _
  have hE := D.zero hn
  rw [hE] at e5
  obtain ⟨g, co, rfl, hR⟩ := hO.2 hE
  rw [D.tk_len] at e4
  refine MJ.ret (fn := Try.f7) (v := .tuple #[.slice (some ⟨g, 0, none⟩) n co, .int .i64 0]) (o := (opsY 8)[2]'(by rw [sizeY8]; decide)) Try.func7 (fun w0 => ?_) rfl ?_
  · have g2 : t8.getD 4 undef = .slice (some ⟨g, 0, none⟩) n co := by rw [Array.getD_eq_getD_getElem?, e4]; rfl
    have g3 : t8.getD 5 undef = .int .i64 0 := by rw [Array.getD_eq_getD_getElem?, e5]; rfl
    rw [results_tmp2 (fn := Try.f7) (t := 4) (u := 5) rfl, g2, g3]
  have hS8 := hS7.put (d := 50) (by omega) (.tuple #[.slice (some ⟨g, 0, none⟩) n co, .int .i64 0])
  refine MJ.mv hS8 (o := (opsY 8)[3]'(by rw [sizeY8]; decide)) 50 47 (.tuple #[.slice (some ⟨g, 0, none⟩) n co, .int .i64 0]) rfl (.inl rfl) rfl rfl (by omega) (by simp [setS]) fun t9 U9 hS9 => ?_
  refine MJ.vl hS9 (o := (opsY 8)[4]'(by rw [sizeY8]; decide)) 51 (.slice (some ⟨g, 0, none⟩) n co) rfl rfl rfl (by omega) (by kernel_rfl) (fun T => run_ext (x := .tmp 47) (i := 0) rfl #[.slice (some ⟨g, 0, none⟩) n co, .int .i64 0] _ (hS9.ev (by simp [setS])) rfl) fun ta Ua hSa => ?_
  refine MJ.vl hSa (o := (opsY 8)[5]'(by rw [sizeY8]; decide)) 52 (.int .i64 0) rfl rfl rfl (by omega) (by kernel_rfl) (fun T => run_ext (x := .tmp 47) (i := 1) rfl #[.slice (some ⟨g, 0, none⟩) n co, .int .i64 0] _ (hSa.ev (by simp [setS])) rfl) fun tb Ub hSb => ?_
  refine MJ.mv hSb (o := (opsY 8)[6]'(by rw [sizeY8]; decide)) 51 8 (.slice (some ⟨g, 0, none⟩) n co) rfl (.inr rfl) rfl rfl (by omega) (by simp [setS]) fun tc Uc hSc => ?_
  refine MJ.mv hSc (o := (opsY 8)[7]'(by rw [sizeY8]; decide)) 52 9 (.int .i64 0) rfl (.inr rfl) rfl rfl (by omega) (by simp [setS]) fun td Ud hSd => MJ.regE ?_
  have hSe : Sl td 112 [(4, .bool false), (5, .slice pt n ct), (6, .slice pu n cu), (8, .slice (some ⟨g, 0, none⟩) n co), (9, .int .i64 0)] := hSd.sub (by simp [setS, DA.sl])
  clear hS5 hS6 hS7 hS8 hS9 hSa hSb hSc hSd
  obtain ⟨wc, hwc⟩ : ∃ wc, wc = onT (onT (onT (onT (onT w8 U9) Ua) Ub) Uc) Ud := ⟨_, rfl⟩
  have k8c : Kc w8 wc := Kc.heap (by rw [hwc]; rfl)
  rw [← hwc]
  clear hwc
  refine MJ.seq (MJ.seq (test9_mj hP hSe pt (some ⟨g, 0, none⟩) n ct co (by simp) (by simp) (by simp) (by simp) fun te Ue hSf => ?_))
  refine MJ.cond (q := false) rfl (hSf.ev (by simp)) ?_
  refine MJ.ctl (k1 := .code (.seq (.seq (.region 11 (opsY 11) false) (.block 2 (.loop lpB))) (.seq (.region 17 (opsY 17) false) (.seq (.region 18 (opsY 18) false) .ret))) :: []) (fun _ _ _ _ _ _ => stepG_skip) ?_
  refine MJ.seq (MJ.seq (MJ.reg (r := [0]) (by rw [sizeY11]; rfl) ?_))
  refine MJ.cst hSf (o := (opsY 11)[0]'(by rw [sizeY11]; decide)) 10 (.int .i64 0) rfl (.inr rfl) rfl rfl (by omega) rfl fun tf Uf hSg => MJ.regE ?_
  refine MJ.ctl (k1 := .code (.loop lpB) :: .inBlock 2 :: .code (.seq (.region 17 (opsY 17) false) (.seq (.region 18 (opsY 18) false) .ret)) :: []) (fun _ _ _ _ _ _ => stepG_block) ?_
  refine MJ.ctl (k1 := .code lpB :: .inLoop lpB :: .inBlock 2 :: .code (.seq (.region 17 (opsY 17) false) (.seq (.region 18 (opsY 18) false) .ret)) :: []) (fun _ _ _ _ _ _ => stepG_loop) ?_
  have kf : Kc wc (onT (onT wc Ue) Uf) := Kc.heap rfl
  have kk : Kc w5 (onT (onT wc Ue) Uf) := ((kb.trans k8).trans k8c).trans kf
  let E : DB := ⟨D.tk n, D.uk n, n, pt, ct, pu, cu, g, co⟩
  have hE' : OkB E := ⟨D.tk_len n, D.uk_len n, hn, fun i hi => D.ok_at hi⟩
  refine loopB_mj hP hE' n tf _ 0 (by show 0 + n = n; omega) ⟨hSg.sub (by simp [setS, DB.sl, E]), hT.kc kk, hU.kc kk, hR.kc (k8c.trans kf)⟩ fun tg wg hB kg => ?_
  exact end_mj hP hB.sl.size (Nat.le_trans (Nat.le_trans hlow5 kk.size) kg.size) hpay hpost
end Go.Proofs.Ytcobehkadhcjiaa
