/-
  Goroutines among others: part 19 of what the law's own text rests on.
-/
import Derived.Test.YtcobehkadhcjiaaCc14
import Derived.Test.YtcobehkadhcjiaaCc18
/-
  sync.WaitGroup: what a call of Add, of Wait lays.
-/
namespace Go.Proofs.Ytcobehkadhcjiaa
open Go Go.Conc Go.Conc.Lib
set_option maxRecDepth 100000 in
theorem add_args (L : WgLink) (Wg : Nat) : #[Value.pointer (some ⟨Wg, 0, none⟩), .int .i64 1] ++ Array.replicate ((addFn L).ntmps - #[Value.pointer (some ⟨Wg, 0, none⟩), .int .i64 1].size) undef = #[.pointer (some ⟨Wg, 0, none⟩), .int .i64 1, undef, undef, undef, undef, undef, undef, undef, undef, undef, undef, undef, undef, undef, undef, undef, undef, undef, undef, undef, undef, undef, undef, undef, undef, undef, undef, undef, undef, undef, undef, undef, undef, undef, undef, undef, undef, undef, undef, undef, undef, undef, undef, undef, undef, undef, undef, undef, undef, undef, undef, undef, undef, undef, undef, undef, undef, undef, undef, undef, undef, undef, undef, undef, undef, undef, undef, undef, undef, undef, undef, undef, undef, undef, undef, undef, undef, undef, undef, undef, undef, undef, undef, undef, undef, undef, undef, undef, undef, undef, undef, undef, undef, undef, undef, undef, undef, undef, undef, undef, undef, undef, undef, undef, undef, undef, undef, undef, undef, undef, undef, undef, undef, undef, undef, undef] := by kernel_rfl
set_option maxRecDepth 100000 in
theorem wait_args (L : WgLink) (Wg : Nat) : #[Value.pointer (some ⟨Wg, 0, none⟩)] ++ Array.replicate ((waitFn L).ntmps - #[Value.pointer (some ⟨Wg, 0, none⟩)].size) undef = #[.pointer (some ⟨Wg, 0, none⟩), undef, undef, undef, undef, undef, undef, undef, undef, undef, undef, undef, undef, undef, undef, undef, undef, undef, undef, undef, undef, undef, undef, undef, undef, undef, undef, undef, undef, undef, undef, undef, undef, undef, undef, undef, undef, undef, undef, undef, undef, undef, undef, undef, undef, undef, undef, undef, undef, undef, undef, undef, undef, undef, undef, undef, undef, undef, undef, undef, undef, undef, undef, undef, undef, undef, undef, undef, undef, undef, undef, undef, undef, undef, undef, undef, undef, undef, undef, undef, undef, undef, undef, undef] := by kernel_rfl
end Go.Proofs.Ytcobehkadhcjiaa

/-
  THE CREW beside sync.WaitGroup: the run.
-/
namespace Go.Proofs.Ytcobehkadhcjiaa
open Go Go.Conc Go.ConcN Go.Conc.Lib
open Go.ConcR (KK WgAt wgBlock stA smA Payload DC0 Bk rd wr mk)
variable [Shift] [Payload]

section
variable {P : Program} {L : WgLink} {S V : FuncId → Bool} {post : Value → World → Prop} {Wg : Nat} {R : Bool → Nat} {r r1 : BR} {w w' w1 w2 : World}
variable {N0 : Nat} {W0 : World} {μ : Mj} {gs : Array Goroutine} {t : Trace} {n q : Nat} {D : Nat → Dj} {Pv Rb : Nat → Nat → Prop} {Gs : Nat → Prop} {p0 : Nat} {st sm st' sm' : Int} {tag tag1 : CTag} {d0 d1 : Nat} {σ σ1 : Sj} {a : Goroutine}

variable (P L S V post N0 W0) in
def EndJ (Q : Value → World → Prop) (m : Stepped × Array MemOp) (gs : Array Goroutine) (t : Trace) : Prop := ∃ o w2 ops, m = (.ended o w2, ops) ∧ ∀ (w3 : World) (sl3 : Option (Nat × Nat)), Conc.Good P Q (crowd gs w3 sl3) o w2 (t ++ ops)

omit [Shift] [Payload] in
theorem guard_ok {o : Oper} (h : o.guard = none) (y : Nat → Option Bool) : Region.wanted o y = true := by simp [Region.wanted, h]

/-- In its tree. -/
theorem Cj.tree (hP : OkP P S V) (H : WgLib P L) (h : Cj P L S V post N0 W0 μ gs w' t n q D Pv Rb Gs Wg R p0 st sm tag d0 σ r w a) (htag : tag = .sp 0 (if σ.pend then 2 else 5)) (hd : d0 = 0) {b : Bool} {m : Mt} {fr : Frame} {ct : List Frame} {k : List Item} {cs : List Frame} (hJ : Jm P L S V b (.main post σ) m fr ct k cs w)
    (hs : Sit P S V (botD [] .normal (by decide) k) [] r fr ct cs w a w') (hle : Mle m μ.1.1) {Q : Value → World → Prop}
    (hQ : ∀ v v' r w w', post v w → VR S r v v' → HR0 S r w w' → (∀ b, b < N0 → w'.heap[b]? = W0.heap[b]?) → N0 ≤ w'.heap.size → w'.os = W0.os → w'.output = W0.output → Q v' w') (sl : Option (Nat × Nat)) :
    OnJ P L S V post N0 W0 μ (runT P (crowd gs w' sl) 0) t ∨ EndJ P Q (runT P (crowd gs w' sl) 0) gs t := by
  subst hd
  have lt : ∀ {m1 : Mt} {x : Nat}, Relation.TransGen Mt.Lt m1 m → Em.Lt (m1, x) μ.1 := fun {m1 x} hm => by
    obtain ⟨⟨μ1, μ2⟩, μ3⟩ := μ
    exact .left _ _ (hle.elim (fun e => by have e' : m = μ1 := e; rw [← e']; exact hm) fun e => hm.trans e)
  rcases jm_res hP hJ [] .normal (by decide) (fun _ _ _ => ⟨rfl, rfl⟩) [] true hs with ⟨b1, m1, r1, fr1, ct1, k1, cs1, w1, a1, w1', es, q1, q2, q3, q4, q5, q6, q7, _⟩ | ⟨m1, fr1, ct1, k1, cs1, hle1, hI, hs1⟩
  · left
    have hwg : ∀ b, σ.wg = some b → w1'.heap[Wg]? = w'.heap[Wg]? := fun b hb => by
      obtain ⟨_, g2, _, _⟩ := h.wg b hb
      exact q6.old Wg (h.gsN Wg g2).2 fun x o hx hw => (h.mine hx hw).2.1 g2
    have hmj : MAj P L S V post Wg r1 w1 w1' σ (.sp 0 (if σ.pend then 2 else 5)) 0 (m1, 0) 0 a1 := .runs q3 q4
    refine h.stepM q1 (tag1 := tag) (by rw [htag]; exact hmj) ⟨rfl, rfl, rfl⟩ q4.hr q6.ext (fun x b hx => q6.new x b hx) q5 (fun b hb hx _ => q6.old b hb hx) q6.size ⟨q6.os, q6.output⟩ (fun b hb => ⟨(h.wg b hb).2.2.1.of_block (hwg b hb), (h.wg b hb).2.2.2⟩) (fun op hop => ?_) (evs_idle q7 0) (by rw [htag]; simp [Ytcobehkadhcjiaa.need]) (.inl (lt q2)) sl
    obtain ⟨j1, j2⟩ := act_at q7 hop
    exact ⟨fun y hy => .inr (j1 y hy), j2 _⟩
  · have lt1 : ∀ {m2 : Mt} {x : Nat}, Relation.TransGen Mt.Lt m2 m1 → Em.Lt (m2, x) μ.1 := fun hm => lt (hle1.elim (fun e => e ▸ hm) fun e => hm.trans e)
    generalize hρ : Rj.main post σ = ρ at hI
    cases hI with
    | @fin post' _ wg f t0 fn v _ hf hi hres hpost =>
      cases hρ
      exact .inr (h.ends_ rfl hQ hf hi hres hpost hs1 sl)
    | @wgnew b2 post' g f t0 ops i rest o k cs _ ho hw hrun hJ2 =>
      cases hρ
      left
      obtain ⟨t', cs', rfl, tt, hmr⟩ := hs1.bareD
      have hwt' : Region.wanted o (yielded ops t') = true := by rw [wanted_rr tt]; exact hw
      have hst := stepG_value (P := P) (main := true) (b := baseK .normal f) (a := ⟨t', []⟩) (k := k) (rest := rest) (cs := cs' ++ []) ho hwt' (by simp [baseK]) (hrun ⟨t', []⟩ w' #[]).1
      rw [put_bareD] at hst
      have hln : listed P (baseK CallKind.normal f).fn ⟨t', []⟩ o w' = #[] := listed_nil (hrun ⟨t', []⟩ w' #[]).2
      rw [hln] at hst
      subst htag
      refine h.stepN hst (μ1 := (g .un, 0)) (fun r1 hext hnew hr1 => ?_) (lt1 (lt_one g .un)) sl
      have hlow := h.hr.low
      have hs2 : Sit P S V (botD [] .normal (by decide) (.inRegion ops rest :: k)) [] r1 (bare f (putT t0 o.dst (.pointer (some ⟨w.heap.size, 0, none⟩)))) [] cs1 (w.alloc (.coro none)) (G ((baseK .normal f).at ⟨putT t' o.dst (.pointer (some ⟨w'.heap.size, 0, none⟩)), []⟩ (.inRegion ops rest :: k)) (cs' ++ [])) (w'.alloc (wgBlock L.tWg 0 0)) :=
        Sit.mkD ((tt.mono hext).put _ (.ptr ⟨hnew, by simp [shf_new hlow], rfl⟩)) (hmr.mono hext) hr1
      have hmj : MAj P L S V post w'.heap.size r1 (w.alloc (.coro none)) (w'.alloc (wgBlock L.tWg 0 0)) ⟨some w.heap.size, false, none, []⟩ (.sp 0 (if (⟨some w.heap.size, false, none, []⟩ : Sj).pend then 2 else 5)) 0 (g .un, 0) 0 _ := .runs (hJ2 hs2.gl) hs2
      exact hmj
    | @add b2 post' g wg rows l f t0 ops i rest o k cs _ x ho hw hx hev hl hrun hJ2 =>
      cases hρ
      left
      obtain ⟨t', cs', rfl, tt, hmr⟩ := hs1.bareD
      have hwt' : Region.wanted o (yielded ops t') = true := by rw [wanted_rr tt]; exact hw
      have hv := ER.of (a := ⟨t0, []⟩) (a' := ⟨t', []⟩) tt x hx
      rw [hev] at hv
      have hpt := h.wgp rfl hv
      have hr := hrun ⟨t', []⟩ w' #[]
      rw [hpt] at hr
      have hst := stepG_enter (P := P) (main := true) (b := baseK .normal f) (a := ⟨t', []⟩) (k := k) (rest := rest) (cs := cs' ++ []) ho hwt' (by simp [baseK]) hr.1
      have hln : listed P (baseK CallKind.normal f).fn ⟨t', []⟩ o w' = #[] := listed_nil hr.2
      have hbody : (addFn L).body = some (Go.ConcR.Gen.body_add L) := rfl
      rw [hln, enter_at _ H.f_add hbody, add_args] at hst
      subst htag
      obtain ⟨g1, g2, g3, g4⟩ := h.wg wg rfl
      have hG := add_one (b₀ := baseK .normal f) (a₀ := ⟨t', []⟩) (ops₀ := ops) (i₀ := i) (rest₀ := rest) (k₀ := k) (cs := cs' ++ []) H w' ⟨_, _, g3⟩
      rw [ho] at hG
      simp only [Option.bind_some] at hG
      rw [put_bareD] at hG
      have hmj : MAj P L S V post Wg r w w' ⟨some wg, true, rows, l⟩ (.sp 0 5) 0 (g .un, 5) 12 _ := .adds (.kd hG) hl fun w2' hr2 => by
        have hs2 : Sit P S V (botD [] .normal (by decide) (.inRegion ops rest :: k)) [] r (bare f (putT t0 o.dst (.tuple #[]))) [] cs1 w (G ((baseK .normal f).at ⟨putT t' o.dst (.tuple #[]), []⟩ (.inRegion ops rest :: k)) (cs' ++ [])) w2' := Sit.mkD (tt.put _ VR.undef) hmr hr2
        exact ⟨_, _, _, _, _, _, .inl rfl, hJ2 hs2.gl, hs2⟩
      have e0 : MemOp.ofEvents 0 (G ((baseK .normal f).at ⟨t', []⟩ (.inRegion ops (i :: rest) :: k)) (cs' ++ [])).frame.fn (G ((baseK .normal f).at ⟨t', []⟩ (.inRegion ops (i :: rest) :: k)) (cs' ++ [])).frame.place #[] = #[] := ops_nil _ _ _
      exact h.stepM hst hmj ⟨rfl, rfl, rfl⟩ h.hr (fun _ _ k => k) (fun _ _ k => .inl k) (LF.refl _) (fun _ _ _ _ => rfl) (Nat.le_refl _) ⟨rfl, rfl⟩ (fun b hb => ⟨(h.wg b hb).2.2.1, (h.wg b hb).2.2.2⟩) (fun op hop => by rw [e0] at hop; simp at hop) rfl (by simp [Ytcobehkadhcjiaa.need]) (.inl (lt1 (lt_one g .un))) sl
    | @go b2 b3 post' g wg rows l spec f t0 ops i j rest o o2 d k k0 cs _ w1 hh xs fn q mk rw ho ho2 hg hg2 hdst hds hx hmk hgo hx0 hf hpro hrw hll hmv hJw hJ2 =>
      cases hρ
      left
      obtain ⟨t', cs', rfl, tt, hmr⟩ := hs1.bareD
      have hst := stepG_value (P := P) (main := true) (b := baseK .normal f) (a := ⟨t', []⟩) (k := k) (rest := j :: rest) (cs := cs' ++ []) ho (guard_ok hg _) (by simp [baseK]) (hmk ⟨t', []⟩ w' #[]).1
      rw [put_bareD, hdst] at hst
      have hln : listed P (baseK CallKind.normal f).fn ⟨t', []⟩ o w' = #[] := listed_nil (hmk ⟨t', []⟩ w' #[]).2
      rw [hln] at hst
      subst htag
      have hmj : MAj P L S V post Wg r w w' ⟨some wg, true, rows, l⟩ (.sp 0 2) 0 (.node g, 0) 0 _ := .mid (w' := w') ho2 hg2 hds hx hgo hx0 hf hpro hrw hll hmv hJw hJ2 tt hmr
      have e0 : MemOp.ofEvents 0 (G ((baseK .normal f).at ⟨t', []⟩ (.inRegion ops (i :: j :: rest) :: k)) (cs' ++ [])).frame.fn (G ((baseK .normal f).at ⟨t', []⟩ (.inRegion ops (i :: j :: rest) :: k)) (cs' ++ [])).frame.place #[] = #[] := ops_nil _ _ _
      exact h.stepM hst hmj ⟨rfl, rfl, rfl⟩ h.hr (fun _ _ k => k) (fun _ _ k => .inl k) (LF.refl _) (fun _ _ _ _ => rfl) (Nat.le_refl _) ⟨rfl, rfl⟩ (fun b hb => ⟨(h.wg b hb).2.2.1, (h.wg b hb).2.2.2⟩) (fun op hop => by rw [e0] at hop; simp at hop) rfl (by simp [Ytcobehkadhcjiaa.need]) (.inl (lt1 (lt_one (fun _ => .node g) .un))) sl
    | @wait b2 post' g wg rows l f t0 ops i rest o k cs _ x ho hw hx hev hrows hrun hJ2 =>
      cases hρ
      left
      obtain ⟨t', cs', rfl, tt, hmr⟩ := hs1.bareD
      have hwt' : Region.wanted o (yielded ops t') = true := by rw [wanted_rr tt]; exact hw
      have hv := ER.of (a := ⟨t0, []⟩) (a' := ⟨t', []⟩) tt x hx
      rw [hev] at hv
      have hpt := h.wgp rfl hv
      have hr := hrun ⟨t', []⟩ w' #[]
      rw [hpt] at hr
      have hst := stepG_enter (P := P) (main := true) (b := baseK .normal f) (a := ⟨t', []⟩) (k := k) (rest := rest) (cs := cs' ++ []) ho hwt' (by simp [baseK]) hr.1
      have hln : listed P (baseK CallKind.normal f).fn ⟨t', []⟩ o w' = #[] := listed_nil hr.2
      have hbody : (waitFn L).body = some (Go.ConcR.Gen.body_wait L) := rfl
      rw [hln, enter_at _ H.f_wait hbody, wait_args] at hst
      subst htag
      obtain ⟨g1, g2, g3, g4⟩ := h.wg wg rfl
      have hl : l.length < 1000000 := by
        cases hrr : rows with
        | none => rw [show l = [] from h.norows (by simpa using hrr)]; simp
        | some rw =>
          obtain ⟨k1, k2⟩ := h.rows rw (by simpa using hrr)
          have := k1.few
          simp only at k2
          omega
      have hG := wait_start (b₀ := baseK .normal f) (a₀ := ⟨t', []⟩) (ops₀ := ops) (i₀ := i) (rest₀ := rest) (k₀ := k) (cs := cs' ++ []) H w' ⟨_, _, g3⟩
      have hB : Waited P L S V post rows l (.node g) r w (G ((baseK .normal f).at (Act.put ⟨t', []⟩ ((ops[i]?).bind (·.dst)) (.tuple #[])) (.inRegion ops rest :: k)) (cs' ++ [])) := fun r1 w1 w2' hext hT hr2 => by
        rw [ho]
        simp only [Option.bind_some]
        rw [put_bareD]
        have hs2 : Sit P S V (botD [] .normal (by decide) (.inRegion ops rest :: k)) [] r1 (bare f (putT t0 o.dst (.tuple #[]))) [] cs1 w1 (G ((baseK .normal f).at ⟨putT t' o.dst (.tuple #[]), []⟩ (.inRegion ops rest :: k)) (cs' ++ [])) w2' := Sit.mkD ((tt.mono hext).put _ VR.undef) (hmr.mono hext) hr2
        exact ⟨_, _, _, _, _, _, .inr (lt_one g (.wv w1 undef)), hJ2 w1 hT hs2.gl, hs2⟩
      have hmj : MAj P L S V post Wg r w w' ⟨some wg, false, rows, l⟩ .kd 0 (.node g, 5000000) 3 _ := .waits (.kd hG) rfl hl hrows hB
      have e0 : MemOp.ofEvents 0 (G ((baseK .normal f).at ⟨t', []⟩ (.inRegion ops (i :: rest) :: k)) (cs' ++ [])).frame.fn (G ((baseK .normal f).at ⟨t', []⟩ (.inRegion ops (i :: rest) :: k)) (cs' ++ [])).frame.place #[] = #[] := ops_nil _ _ _
      exact h.stepM hst hmj ⟨rfl, rfl, rfl⟩ h.hr (fun _ _ k => k) (fun _ _ k => .inl k) (LF.refl _) (fun _ _ _ _ => rfl) (Nat.le_refl _) ⟨rfl, rfl⟩ (fun b hb => ⟨(h.wg b hb).2.2.1, (h.wg b hb).2.2.2.reopen trivial trivial rfl (by simp)⟩) (fun op hop => by rw [e0] at hop; simp at hop) rfl (by simp [Ytcobehkadhcjiaa.need]) (.inl (lt1 (lt_one (fun _ => .node g) .un))) sl
    | _ => cases hρ

/-- A step of the first's. -/
theorem Cj.first (hP : OkP P S V) (H : WgLib P L) (h : Cj P L S V post N0 W0 μ gs w' t n q D Pv Rb Gs Wg R p0 st sm tag d0 σ r w a) (hrun : a.status = .running) {Q : Value → World → Prop}
    (hQ : ∀ v v' r w w', post v w → VR S r v v' → HR0 S r w w' → (∀ b, b < N0 → w'.heap[b]? = W0.heap[b]?) → N0 ≤ w'.heap.size → w'.os = W0.os → w'.output = W0.output → Q v' w') (sl : Option (Nat × Nat)) :
    OnJ P L S V post N0 W0 μ (runT P (crowd gs w' sl) 0) t ∨ EndJ P Q (runT P (crowd gs w' sl) 0) gs t := by
  have hm := h.main
  generalize hμ : μ.1 = M at hm
  generalize hf : μ.2.2 = F at hm
  cases hm with
  | runs hJ hs => exact h.tree hP H rfl rfl hJ hs (.inl (by rw [hμ])) hQ sl
  | @mid wg rows l g b1 b2 spec f t0 t' ops j rest o2 d k k0 cs cs' w1 hh xs fn qn mk rw ho2 hg2 hds hx hgo hx0 hf2 hpro hrw hll hmv hJw hJ2 tt hmr =>
    left
    have hts : d < t'.size := by rw [← tt.size]; exact hds
    have ha := (ER.of (a := ⟨t0, []⟩) (a' := ⟨t', []⟩) tt).all xs hx
    have hev : Act.eval ⟨putT t' (some d) (.func (.func hh) #[] (xs.map (Act.eval ⟨t', []⟩))), []⟩ (.tmp d) = .func (.func hh) #[] (xs.map (Act.eval ⟨t', []⟩)) := by
      simp [Act.eval, putT, Act.put, hts]
    have hr := hgo ⟨putT t' (some d) (.func (.func hh) #[] (xs.map (Act.eval ⟨t', []⟩))), []⟩ w' #[] _ hev
    have hst := stepG_spawn (P := P) (main := true) (b := baseK .normal f) (a := ⟨putT t' (some d) (.func (.func hh) #[] (xs.map (Act.eval ⟨t', []⟩))), []⟩) (k := k) (rest := rest) (cs := cs' ++ []) ho2 (guard_ok hg2 _) (by simp [baseK]) hr.1 rfl
    rw [put_bareD] at hst
    have hln : listed P (baseK CallKind.normal f).fn ⟨putT t' (some d) (.func (.func hh) #[] (xs.map (Act.eval ⟨t', []⟩))), []⟩ o2 w' = #[] := listed_nil hr.2
    rw [hln] at hst
    refine h.stepS (w1 := w1) hst (μ1 := (g .un, 0)) (qn := qn) (mk := mk) ?_ hll hmv (fun hrf => ?_) (fun R' hrf => ?_) ?_ sl
    · rcases hrw with k1 | ⟨k1, k2, k3, k4⟩
      · exact .inl k1
      · exact .inr ⟨k1, k2, k3, _, _, k4, ha⟩
    · have htt : RR S r (putT (putT t0 (some d) undef) o2.dst undef) (putT (putT t' (some d) (.func (.func hh) #[] (xs.map (Act.eval ⟨t', []⟩)))) o2.dst undef) := (tt.put _ (.dead _ _ _)).put _ VR.undef
      have hs2 : Sit P S V (botD [] .normal (by decide) (.inRegion ops rest :: k)) [] r (bare f (putT (putT t0 (some d) undef) o2.dst undef)) [] cs (frz w1) (G ((baseK .normal f).at ⟨putT (putT t' (some d) (.func (.func hh) #[] (xs.map (Act.eval ⟨t', []⟩)))) o2.dst undef, []⟩ (.inRegion ops rest :: k)) (cs' ++ [])) w' := Sit.mkD htt hmr hrf
      have hmj : MAj P L S V post Wg r (frz w1) w' ⟨some wg, false, some rw, l ++ [spec]⟩ (.sp 0 (if (⟨some wg, false, some rw, l ++ [spec]⟩ : Sj).pend then 2 else 5)) 0 (g .un, 0) 0 _ := .runs (hJ2 hs2.gl) hs2
      exact hmj
    · have h0 : (xs.map (Act.eval ⟨t', []⟩))[0]? = some (.pointer (some ⟨Wg, 0, none⟩)) := by
        obtain ⟨v', e1, e2⟩ := ha.get hx0
        rw [e1, h.wgp rfl e2]
      have hl0 := hpro (xs.map (Act.eval ⟨t', []⟩)) _ (by simp) h0
      exact .born (b := b1) hl0 (ha.append (RR.replicate _ VR.undef)) rfl fun hgl => hJw hgl
    · rw [hμ]
      exact .left _ _ (lt_one g .un)
  | adds h1 h2 h3 => exact .inl (h.adds rfl rfl h1 h2 h3 hμ hf sl)
  | waits h1 h0 h2 h3 h4 =>
    subst h0
    refine .inl (h.waits H rfl h1 hrun h2 h3 h4 hμ hf (fun m' _ e1 e2 hst e3 sl' => ?_) sl)
    exact h.join rfl e1 e2 (hst w' (rl_refl _ _)) h3 h4 (by rw [hμ, e3]) sl'
  | @backs _ m f _ B hG hB =>
    rcases Goes.cases hG with hstop | ⟨m', rfl, hstep⟩
    · have e := hstop w' (rl_refl _ _)
      subst e
      obtain ⟨b, m1, fr, ct, k, cs, hle, hJ, hs⟩ := hB w' h.hr
      exact h.tree hP H rfl rfl hJ hs (by rw [hμ]; exact hle) hQ sl
    · obtain ⟨g', w2, es, hgo, ⟨rfl, rfl⟩, hg'⟩ := hstep w' (rl_refl _ _)
      exact .inl (h.stepI hgo (by rw [hμ]; exact .backs hg' hB) (by omega) sl)
end
end Go.Proofs.Ytcobehkadhcjiaa
