/-
  Goroutines among others: part 38 of what the law's own text rests on.
-/
import Derived.Test.YtcobehkadhcjiaaCc37
/-
  keep.CrewShares: a round of its first loop.
-/
namespace Go.Proofs.Ytcobehkadhcjiaa
open Go Go.Conc Go.ConcN Go.Conc.Lib Go.RowKit Go.Shelf
open Go.ConcR (Payload)

/-! ### Rows of one's own -/
theorem own_lt {w : World} {B T n : Nat} {v : Value} {xs : List Value} (h : w.ownsRow B T 1 v n xs) {g : Nat} (hg : v.ownBlock = some g) : B ≤ g ∧ g < w.heap.size ∧ ∃ c, w.heap[g]? = some (.cells c T (0, 0)) := by
  rcases h.2 with ⟨e, _⟩ | ⟨g', cap, cur, e, hB, hb, _⟩
  · rw [e] at hg; cases hg
  · rw [e] at hg
    have e' : g' = g := by simpa [Value.ownBlock] using hg
    subst e'
    exact ⟨hB, (Array.getElem?_eq_some_iff.1 hb).1, cur, hb⟩
theorem own_gr {w w1 : World} {B T n : Nat} {v : Value} {xs : List Value} (h : w.ownsRow B T 1 v n xs) {row : Option Nat} (hg : w.grownBy w1 row) (hr : ∀ g, v.ownBlock = some g → row ≠ some g) : w1.ownsRow B T 1 v n xs := by
  refine ⟨h.1, ?_⟩
  rcases h.2 with h0 | ⟨g, cap, cur, e1, hB, hb, h3⟩
  · exact .inl h0
  · refine .inr ⟨g, cap, cur, e1, hB, (hg.block g (Array.getElem?_eq_some_iff.1 hb).1 fun e => hr g ?_ e.symm).trans hb, h3⟩
    rw [e1]; rfl
theorem own_ty {w : World} {B B' T T' n n' : Nat} {v v' : Value} {xs xs' : List Value} (h : w.ownsRow B T 1 v n xs) (h' : w.ownsRow B' T' 1 v' n' xs') (ht : T ≠ T') : ∀ g, v.ownBlock = some g → v'.ownBlock ≠ some g := fun g hg hg' => by
  obtain ⟨_, _, c, hc⟩ := own_lt h hg
  obtain ⟨_, _, c', hc'⟩ := own_lt h' hg'
  rw [hc] at hc'
  cases hc'
  exact ht rfl
theorem own_up {w : World} {B B' T n : Nat} {v : Value} {xs : List Value} (h : w.ownsRow B' T 1 v n xs) (hB : B ≤ B') : w.ownsRow B T 1 v n xs := by
  refine ⟨h.1, ?_⟩
  rcases h.2 with h0 | ⟨g, cap, cur, e1, hB', h3⟩
  · exact .inl h0
  · exact .inr ⟨g, cap, cur, e1, Nat.le_trans hB hB', h3⟩
theorem own_slice {w : World} {B T n : Nat} {v : Value} {xs : List Value} (h : w.ownsRow B T 1 v n xs) : ∃ p c, v = .slice p n c ∧ (p = none → c = 0) := by
  rcases h.2 with ⟨e, hn⟩ | ⟨g, cap, cur, e, _⟩
  · subst hn; exact ⟨none, 0, e, fun _ => rfl⟩
  · exact ⟨_, cap, e, fun h => by cases h⟩
theorem own_segI {w : World} {B : Nat} {v : Value} {l : List Int} (h : w.ownsRow B 3 1 v l.length (Bo.ivals l)) : Seg w v l ∧ Lies w.heap.size v := by
  obtain ⟨p, c, rfl, hc⟩ := owns_form h
  by_cases h0 : l.length = 0
  · have e := List.length_eq_zero_iff.1 h0
    subst e
    exact ⟨.inl ⟨rfl, _, _, rfl⟩, lies_nil _ _ _⟩
  · have key : ∀ i, i < l.length → ∃ g, p = some ⟨g, 0, none⟩ ∧ w.cell? ⟨g, 0 + i, none⟩ = some (.int .i64 (l.getD i 0)) := fun i hi => hc i _ (by simp [Bo.ivals, hi])
    obtain ⟨g, e, hg⟩ := key 0 (by omega)
    subst e
    refine ⟨.inr ⟨g, 0, c, rfl, fun j hj => ?_⟩, lies_at (World.block_lt_of_cell? (h := hg))⟩
    obtain ⟨g', e, hg'⟩ := key j hj
    injection e with e
    injection e with e _
    subst e
    exact hg'

/-- What came in; what is made of it. -/
structure DA where
  W0 : World
  pa : Option Addr
  n : Nat
  ca : Nat
  pb : Option Addr
  m : Nat
  cb : Nat
  ts : List Int
  ws : List (List Int)
def DA.sl (D : DA) (k : Nat) (tv uv : Value) : List (Nat × Value) := [(0, .slice D.pa D.n D.ca), (1, .slice D.pb D.m D.cb), (4, .bool false), (5, tv), (6, uv), (7, .int .i64 k)]
def DA.tk (D : DA) (k : Nat) : List Int := (List.range k).map fun i => D.ts.getD i 0 % 200
def DA.uk (D : DA) (k : Nat) : List (List Int) := (List.range k).map fun i => Bo.Plain.wantL (D.ws.getD i [])
theorem DA.tk_len (D : DA) (k : Nat) : (D.tk k).length = k := by simp [DA.tk]
theorem DA.uk_len (D : DA) (k : Nat) : (D.uk k).length = k := by simp [DA.uk]
theorem DA.tk_succ (D : DA) (k : Nat) : D.tk (k + 1) = D.tk k ++ [D.ts.getD k 0 % 200] := by simp [DA.tk, List.range_succ]
theorem DA.tk_at (D : DA) {k i : Nat} (h : i < k) : (D.tk k).getD i 0 = D.ts.getD i 0 % 200 := by simp [DA.tk, h]
theorem DA.uk_at (D : DA) {k i : Nat} (h : i < k) : (D.uk k).getD i [] = Bo.Plain.wantL (D.ws.getD i []) := by simp [DA.uk, h]
structure OkA (D : DA) : Prop where
  ht : D.ts.length = D.n
  hw : D.ws.length = D.m
  seg : Seg D.W0 (.slice D.pa D.n D.ca) D.ts
  tab : TabW D.W0 D.pb D.ws
  big : ∀ j, (D.ws.getD j []).length ≤ 9223372036854775807
  wt : ∀ j, j < D.n → -9223372036854775808 ≤ D.ts.getD j 0 ∧ D.ts.getD j 0 ≤ 9223372036854775807
  wu : ∀ j, j < D.m → ∀ z ∈ D.ws.getD j [], (Lit.int .i64 z).wf = true
/-- An inner row of one's own, apart from the row of totals. -/
def RowU (w : World) (B : Nat) (tv v : Value) (l : List Int) : Prop := w.ownsRow B 3 1 v l.length (Bo.ivals l) ∧ ∀ g, v.ownBlock = some g → tv.ownBlock ≠ some g
structure StA (D : DA) (t : Array Value) (w : World) (k : Nat) (tv uv : Value) (xs : List Value) : Prop where
  sl : Sl t 112 (D.sl k tv uv)
  kx : Kx D.W0 w
  ot : w.ownsRow D.W0.heap.size 3 1 tv k (Bo.ivals (D.tk k))
  ou : w.ownsRow D.W0.heap.size 22 1 uv k xs
  rows : ∀ i, i < k → ∃ v, xs[i]? = some v ∧ RowU w D.W0.heap.size tv v (Bo.Plain.wantL (D.ws.getD i []))
theorem RowU.kx {w w1 : World} {B : Nat} {tv v : Value} {l : List Int} (h : RowU w B tv v l) (k : Kx w w1) : RowU w1 B tv v l := ⟨owns_kx h.1 k, h.2⟩
theorem RowU.gr {w w1 : World} {B : Nat} {tv v : Value} {l : List Int} (h : RowU w B tv v l) {row : Option Nat} (hg : w.grownBy w1 row) (hr : ∀ g, v.ownBlock = some g → row ≠ some g) : RowU w1 B tv v l := ⟨own_gr h.1 hg hr, h.2⟩
theorem kx_gr {w w1 W0 : World} (h : Kx W0 w) {row : Option Nat} (hg : w.grownBy w1 row) (hr : ∀ g, row = some g → W0.heap.size ≤ g) : Kx W0 w1 := ⟨Nat.le_trans h.size hg.size, fun a ha => by
  rw [hg.block a (Nat.lt_of_lt_of_le ha h.size) fun e => by have := hr a e.symm; omega]
  exact h.block a ha⟩
theorem info3' : (Try.prog.info? 3).map (fun i => (i.zero, i.size, i.bytes)) = some (some (Value.int .i64 0), 1, 8) := by kernel_rfl

variable [Shift] [Payload]
set_option maxHeartbeats 1000000 in
theorem roundA_mj (hP : OkP Try.prog S1 V1) {D : DA} (hD : OkA D) {L : WgLink} {ρ : Rj} {kk : List Item} {cs : List Frame} (t : Array Value) (w : World) (k : Nat) (tv uv : Value) (xs : List Value) (hn : k < D.n) (hm : k < D.m) (h12 : k < 12) (h : StA D t w k tv uv xs)
    (K : ∀ (t' : Array Value) (w' : World) (tv' uv' : Value) (xs' : List Value), StA D t' w' (k + 1) tv' uv' xs' → MJ Try.prog L S1 V1 ρ (bare 6 t') [] kk cs w') :
    MJ Try.prog L S1 V1 ρ (bare 6 t) [] (.code (.seq (.block 1 (.seq (.region 6 (opsY 6) false) (.region 7 (opsY 7) false))) (.region 5 (opsY 5) false)) :: kk) cs w := by
  have hts : D.ts.length = D.n := hD.ht
  obtain ⟨ba, oa, hpa, hx⟩ : ∃ ba oa, D.pa = some ⟨ba, oa, none⟩ ∧ D.W0.cell? ⟨ba, oa + k, none⟩ = some (.int .i64 (D.ts.getD k 0)) := by
    rcases hD.seg with ⟨e, _⟩ | ⟨b, off, c, hv, hc⟩
    · rw [e] at hts; simp at hts; omega
    · injection hv with e1 e2 e3
      exact ⟨b, off, e1, hc k (by omega)⟩
  obtain ⟨bw, ow, vi, hpb, hvi, hsg, hly⟩ := hD.tab.at_ k (by rw [hD.hw]; exact hm)
  refine MJ.seq (MJ.ctl (k1 := .code (.seq (.region 6 (opsY 6) false) (.region 7 (opsY 7) false)) :: .inBlock 1 :: .code (.region 5 (opsY 5) false) :: kk) (fun _ _ _ _ _ _ => stepG_block) ?_)
  refine MJ.seq (MJ.reg (r := [0, 1, 2, 3, 4, 5, 6, 7, 8]) (by rw [sizeY6]; rfl) ?_)
  refine MJ.mv h.sl (o := (opsY 6)[0]'(by rw [sizeY6]; decide)) 5 31 tv rfl (.inl rfl) rfl rfl (by omega) (by simp [DA.sl]) fun t1 U1 hS1 => ?_
  refine MJ.mv hS1 (o := (opsY 6)[1]'(by rw [sizeY6]; decide)) 0 32 (.slice (some ⟨ba, oa, none⟩) D.n D.ca) rfl (.inl rfl) rfl rfl (by omega) (by rw [← hpa]; simp [setS, DA.sl]) fun t2 U2 hS2 => ?_
  refine MJ.mv hS2 (o := (opsY 6)[2]'(by rw [sizeY6]; decide)) 7 33 (.int .i64 k) rfl (.inl rfl) rfl rfl (by omega) (by simp [setS, DA.sl]) fun t3 U3 hS3 => ?_
  refine MJ.vl hS3 (o := (opsY 6)[3]'(by rw [sizeY6]; decide)) 34 (.pointer (some ⟨ba, oa + k, none⟩)) rfl rfl rfl (by omega) (by kernel_rfl) (fun T => run_ix (x := .tmp 32) (y := .tmp 33) (ty := 22) (el := 3) rfl Try.underlying22 (by kernel_rfl) ba oa D.n D.ca k (hS3.ev (by simp [setS])) (hS3.ev (by simp [setS])) hn) fun t4 U4 hS4 => ?_
  refine MJ.vl hS4 (o := (opsY 6)[4]'(by rw [sizeY6]; decide)) 35 (.int .i64 (D.ts.getD k 0)) rfl rfl rfl (by omega) (by kernel_rfl) (fun T => run_ld3 (x := .tmp 34) rfl _ _ (hS4.ev (by simp [setS])) (h.kx.kc.cell _ _ hx)) fun t5 U5 hS5 => ?_
  have e35 : Act.eval ⟨t5, []⟩ (.tmp 35) = .int .i64 (D.ts.getD k 0) := hS5.ev (by simp [setS])
  refine MJ.call (h := 14) (args := #[.int .i64 (D.ts.getD k 0), .int .i64 200]) (o := (opsY 6)[5]'(by rw [sizeY6]; decide)) hP okY6 rfl rfl (fun w' => ?_) fun T => ?_
  · rw [run_call (g := 14) (xs := #[.tmp 35, .const (.int .i64 200)]) (tys := #[3, 3]) rfl rfl eg14]
    have e200 : Act.eval ⟨t5, []⟩ (.const (.int .i64 200)) = .int .i64 200 := rfl
    simp only [List.map_toArray, List.map_cons, List.map_nil, e35, e200]
  refine (picked_any (D.ts.getD k 0) 200 (hD.wt k hn).1 (hD.wt k hn).2 (by decide) (by decide) _).mono ?_
  rintro e w5 ⟨rfl, hw5⟩
  refine ⟨_, rfl, fun U6 => ?_⟩
  have hS6 := hS5.put (d := 36) (by omega) (.int .i64 (D.ts.getD k 0 % 200))
  obtain ⟨wx, hwx⟩ : ∃ wx, wx = onT w5 U6 := ⟨_, rfl⟩
  have kx : Kx w wx := Kx.heap (by rw [hwx, hw5]; rfl)
  rw [← hwx]
  clear hwx hw5
  refine MJ.ow hS6 (o := (opsY 6)[6]'(by rw [sizeY6]; decide)) 37 rfl rfl rfl (by omega) (by kernel_rfl) fun T => ⟨_, _, run_buildI (x := .tmp 36) rfl (D.ts.getD k 0 % 200) (hS6.ev (by simp [setS])), fun t7 hS7 => ?_⟩
  obtain ⟨wz, hwz⟩ : ∃ wz, wz = (retape wx T).alloc (.cells #[.int .i64 (D.ts.getD k 0 % 200)] 3 (0, 0)) := ⟨_, rfl⟩
  have ez : (retape wx T).heap.size = wx.heap.size := rfl
  have kyz : Kx wx wz := by rw [hwz]; exact (Kx.heap rfl : Kx wx (retape wx T)).trans (Kx.below ((Below.refl _ _).alloc (Nat.le_refl _) _))
  have cz : wz.cell? ⟨wx.heap.size, 0, none⟩ = some (.int .i64 (D.ts.getD k 0 % 200)) := by rw [hwz, ← ez]; exact al_cell _ _ _ _ 0
  rw [ez] at hS7
  rw [← hwz]
  clear hwz ez
  obtain ⟨ti, hti, htz, hts1, htb⟩ : ∃ i, Try.prog.info? 3 = some i ∧ i.zero = some (.int .i64 0) ∧ i.size = 1 ∧ i.bytes = 8 := by
    obtain ⟨i, hi, he⟩ := Option.map_eq_some_iff.1 info3'
    simp only [Prod.mk.injEq] at he
    exact ⟨i, hi, he.1, he.2.1, he.2.2⟩
  refine MJ.ow hS7 (o := (opsY 6)[7]'(by rw [sizeY6]; decide)) 38 rfl rfl rfl (by omega) (by kernel_rfl) fun T => ?_
  have kzz : Kx w (retape wz T) := (kx.trans kyz).trans (Kx.heap rfl)
  have hO : (retape wz T).ownsRow D.W0.heap.size 3 1 tv k (Bo.ivals (D.tk k)) := owns_kx h.ot kzz
  obtain ⟨tv', w7, g1, g2, g3, g4⟩ := run_app (P := Try.prog) (e := Act.eval ⟨t7, []⟩) (w := retape wz T) (o := (opsY 6)[7]'(by rw [sizeY6]; decide)) (x := .tmp 31) (y := .tmp 37) (ty := 22) (el := 3) (bytes := 8) rfl Try.underlying22 hti htz hts1 htb rfl (by omega) D.W0.heap.size tv k (Bo.ivals (D.tk k)) hO
    ⟨wx.heap.size, 0, none⟩ 1 1 [.int .i64 (D.ts.getD k 0 % 200)] rfl (fun q u hu => by
      have hq0 : q = 0 := by have := (List.getElem?_eq_some_iff.1 hu).1; simp at this; omega
      subst hq0
      simp only [List.getElem?_cons_zero, Option.some.injEq] at hu
      subst hu
      exact cz) (fun u hu => by simp at hu; subst hu; rfl) (by omega) (by have := (h.kx.trans kzz).size; exact this) (hS7.ev (by simp [setS])) (hS7.ev (by simp [setS]))
  refine ⟨tv', w7, g1, fun t8 hS8 => ?_⟩
  have kx7 : Kx D.W0 w7 := kx_gr (h.kx.trans kzz) g3 fun g hg => (own_lt hO hg).1
  have ou7 : w7.ownsRow D.W0.heap.size 22 1 uv k xs := own_gr (owns_kx h.ou kzz) g3 (own_ty (owns_kx h.ou kzz) hO (by decide))
  have ot7 : w7.ownsRow D.W0.heap.size 3 1 tv' (k + 1) (Bo.ivals (D.tk (k + 1))) := by rw [D.tk_succ, Bo.ivals_snoc]; exact g2
  have rows7 : ∀ i, i < k → ∃ v, xs[i]? = some v ∧ RowU w7 D.W0.heap.size tv' v (Bo.Plain.wantL (D.ws.getD i [])) := fun i hi => by
    obtain ⟨v, q1, q2⟩ := h.rows i hi
    have q3 := (q2.kx kzz).gr g3 q2.2
    refine ⟨v, q1, q3.1, fun g hg => ?_⟩
    rcases g4 with e | e
    · rw [e]; exact q2.2 g hg
    · rw [e]
      intro e2
      have := (own_lt (owns_kx q2.1 kzz) hg).2.1
      have e3 : (retape wz T).heap.size = g := Option.some.inj e2
      omega
  clear g1 g2 g3 g4 hO kzz cz kyz kx hS1 hS2 hS3 hS4 hS5 hS6
  refine MJ.mv hS8 (o := (opsY 6)[8]'(by rw [sizeY6]; decide)) 38 5 tv' rfl (.inr rfl) rfl rfl (by omega) (by simp [setS]) fun t9 U9 hS9 => MJ.regE ?_
  have hSa : Sl t9 112 (D.sl k tv' uv) := hS9.sub (by simp [setS, DA.sl])
  clear hS7 hS8 hS9
  obtain ⟨w8, hw8⟩ : ∃ w8, w8 = onT w7 U9 := ⟨_, rfl⟩
  have k78 : Kx w7 w8 := Kx.heap (by rw [hw8]; rfl)
  rw [← hw8]
  clear hw8
  refine MJ.reg (r := [0, 1, 2, 3, 4, 5, 6, 7, 8]) (by rw [sizeY7]; rfl) ?_
  refine MJ.mv hSa (o := (opsY 7)[0]'(by rw [sizeY7]; decide)) 6 39 uv rfl (.inl rfl) rfl rfl (by omega) (by simp [DA.sl]) fun ta Ua hSb => ?_
  refine MJ.mv hSb (o := (opsY 7)[1]'(by rw [sizeY7]; decide)) 1 40 (.slice (some ⟨bw, ow, none⟩) D.m D.cb) rfl (.inl rfl) rfl rfl (by omega) (by rw [← hpb]; simp [setS, DA.sl]) fun tb Ub hSc => ?_
  refine MJ.mv hSc (o := (opsY 7)[2]'(by rw [sizeY7]; decide)) 7 41 (.int .i64 k) rfl (.inl rfl) rfl rfl (by omega) (by simp [setS, DA.sl]) fun tc Uc hSd => ?_
  refine MJ.vl hSd (o := (opsY 7)[3]'(by rw [sizeY7]; decide)) 42 (.pointer (some ⟨bw, ow + k, none⟩)) rfl rfl rfl (by omega) (by kernel_rfl) (fun T => run_ix (x := .tmp 40) (y := .tmp 41) (ty := 23) (el := 22) rfl Try.underlying23 (by kernel_rfl) bw ow D.m D.cb k (hSd.ev (by simp [setS])) (hSd.ev (by simp [setS])) hm) fun td Ud hSe => ?_
  refine MJ.vl hSe (o := (opsY 7)[4]'(by rw [sizeY7]; decide)) 43 vi rfl rfl rfl (by omega) (by kernel_rfl) (fun T => run_ld22 (x := .tmp 42) rfl _ _ (hSe.ev (by simp [setS])) ((kx7.trans k78).kc.cell _ _ hvi)) fun te Ue hSf => ?_
  have e43 : Act.eval ⟨te, []⟩ (.tmp 43) = vi := hSf.ev (by simp [setS])
  refine MJ.call (h := 16) (args := #[vi]) (o := (opsY 7)[5]'(by rw [sizeY7]; decide)) hP okY7 rfl rfl (fun w' => ?_) fun T => ?_
  · rw [run_call (g := 16) (xs := #[.tmp 43]) (tys := #[22]) rfl rfl eg16]
    simp only [List.map_toArray, List.map_cons, List.map_nil, e43]
  obtain ⟨wf, hwf⟩ : ∃ wf, wf = retape (onT (onT (onT (onT (onT w8 Ua) Ub) Uc) Ud) Ue) T := ⟨_, rfl⟩
  have k8f : Kx w7 wf := k78.trans (Kx.heap (by rw [hwf]; rfl))
  rw [← hwf]
  clear hwf
  have kcf := (kx7.trans k8f).kc
  obtain ⟨pw, cw, rfl, hW⟩ := Bo.seg_wants (hsg.kc kcf) (hly.mono kcf.size)
  refine (Bo.wantsOf_c pw (D.ws.getD k []).length cw (D.ws.getD k []) (hD.wu k hm) (hD.big k) wf rfl hW).mono ?_
  rintro e w9 ⟨r, rfl, hr, hb⟩
  refine ⟨_, rfl, fun U6 => ?_⟩
  have kf9 : Kx wf w9 := Kx.below hb
  obtain ⟨ra, rc, rfl, hnil⟩ := own_slice hr
  have hSg := hSf.put (d := 44) (by omega) (.slice ra (Bo.Plain.wantL (D.ws.getD k [])).length rc)
  obtain ⟨wy, hwy⟩ : ∃ wy, wy = onT w9 U6 := ⟨_, rfl⟩
  have k9y : Kx w9 wy := Kx.heap (by rw [hwy]; rfl)
  rw [← hwy]
  clear hwy
  have hry := owns_kx hr k9y
  refine MJ.ow hSg (o := (opsY 7)[6]'(by rw [sizeY7]; decide)) 45 rfl rfl rfl (by omega) (by kernel_rfl) fun T => ⟨_, _, run_build1 (x := .tmp 44) rfl ra (Bo.Plain.wantL (D.ws.getD k [])).length rc (hSg.ev (by simp [setS])), fun th hSh => ?_⟩
  obtain ⟨wz2, hwz⟩ : ∃ wz2, wz2 = (retape wy T).alloc (.cells #[.slice ra (Bo.Plain.wantL (D.ws.getD k [])).length rc] 22 (0, 0)) := ⟨_, rfl⟩
  have ez : (retape wy T).heap.size = wy.heap.size := rfl
  have kyz : Kx wy wz2 := by rw [hwz]; exact (Kx.heap rfl : Kx wy (retape wy T)).trans (Kx.below ((Below.refl _ _).alloc (Nat.le_refl _) _))
  have cz : wz2.cell? ⟨wy.heap.size, 0, none⟩ = some (.slice ra (Bo.Plain.wantL (D.ws.getD k [])).length rc) := by rw [hwz, ← ez]; exact al_cell _ _ _ _ 0
  rw [ez] at hSh
  rw [← hwz]
  clear hwz ez
  obtain ⟨ti2, hti2, htz2, hts2, htb2⟩ : ∃ i, Try.prog.info? 22 = some i ∧ i.zero = some (.slice none 0 0) ∧ i.size = 1 ∧ i.bytes = 24 := by
    obtain ⟨i, hi, he⟩ := Option.map_eq_some_iff.1 info22'
    simp only [Prod.mk.injEq] at he
    exact ⟨i, hi, he.1, he.2.1, he.2.2⟩
  refine MJ.ow hSh (o := (opsY 7)[7]'(by rw [sizeY7]; decide)) 46 rfl rfl rfl (by omega) (by kernel_rfl) fun T => ?_
  have kyT : Kx wy (retape wz2 T) := kyz.trans (Kx.heap rfl)
  have k7T : Kx w7 (retape wz2 T) := ((k8f.trans kf9).trans k9y).trans kyT
  have hO : (retape wz2 T).ownsRow D.W0.heap.size 22 1 uv k xs := owns_kx ou7 k7T
  obtain ⟨uv', wA, g1, g2, g3, g4⟩ := run_app (P := Try.prog) (e := Act.eval ⟨th, []⟩) (w := retape wz2 T) (o := (opsY 7)[7]'(by rw [sizeY7]; decide)) (x := .tmp 39) (y := .tmp 45) (ty := 23) (el := 22) (bytes := 24) rfl Try.underlying23 hti2 htz2 hts2 htb2 rfl (by omega) D.W0.heap.size uv k xs hO
    ⟨wy.heap.size, 0, none⟩ 1 1 [.slice ra (Bo.Plain.wantL (D.ws.getD k [])).length rc] rfl (fun q u hu => by
      have hq0 : q = 0 := by have := (List.getElem?_eq_some_iff.1 hu).1; simp at this; omega
      subst hq0
      simp only [List.getElem?_cons_zero, Option.some.injEq] at hu
      subst hu
      exact cz) (fun u hu => by simp at hu; subst hu; rfl) (by omega) (by have := (kx7.trans k7T).size; exact this) (hSh.ev (by simp [setS])) (hSh.ev (by simp [setS]))
  refine ⟨uv', wA, g1, fun ti' hSi => ?_⟩
  have hlx : xs.length = k := by have := h.ou.1; omega
  have otT : (retape wz2 T).ownsRow D.W0.heap.size 3 1 tv' (k + 1) (Bo.ivals (D.tk (k + 1))) := owns_kx ot7 k7T
  have rowsA : ∀ i, i < k + 1 → ∃ v, (xs ++ [Value.slice ra (Bo.Plain.wantL (D.ws.getD k [])).length rc])[i]? = some v ∧ RowU wA D.W0.heap.size tv' v (Bo.Plain.wantL (D.ws.getD i [])) := fun i hi => by
    by_cases e : i = k
    · subst e
      refine ⟨_, by rw [List.getElem?_append_right (by omega), hlx, Nat.sub_self]; rfl, ?_⟩
      have q1 := own_up (owns_kx hry kyT) (kx7.trans k8f).size
      refine ⟨own_gr q1 g3 (own_ty q1 hO (by decide)), fun g hg e2 => ?_⟩
      have q2 := (own_lt hr hg).1
      have q3 := (own_lt ot7 e2).2.1
      have := k8f.size
      omega
    · obtain ⟨v, q1, q2⟩ := rows7 i (by omega)
      have q3 := q2.kx k7T
      exact ⟨v, by rw [List.getElem?_append_left (by omega)]; exact q1, q3.gr g3 (own_ty q3.1 hO (by decide))⟩
  refine MJ.mv hSi (o := (opsY 7)[8]'(by rw [sizeY7]; decide)) 46 6 uv' rfl (.inr rfl) rfl rfl (by omega) (by simp [setS]) fun tj Uj hSj => MJ.regE ?_
  refine MJ.ctl (k1 := .code (.region 5 (opsY 5) false) :: kk) (fun _ _ _ _ _ _ => stepG_inBlock) ?_
  refine MJ.reg (r := [0, 1, 2]) (by rw [sizeY5]; rfl) ?_
  refine MJ.mv hSj (o := (opsY 5)[0]'(by rw [sizeY5]; decide)) 7 29 (.int .i64 k) rfl (.inl rfl) rfl rfl (by omega) (by simp [setS, DA.sl]) fun tk Uk hSk => ?_
  refine MJ.vl hSk (o := (opsY 5)[1]'(by rw [sizeY5]; decide)) 30 (.int .i64 (k + 1 : Nat)) rfl rfl rfl (by omega) (by kernel_rfl) (fun T => ?_) fun tl Ul hSl => ?_
  · have := run_addi (P := Try.prog) (e := Act.eval ⟨tk, []⟩) (w := retape (onT (onT wA Uj) Uk) T) (o := (opsY 5)[1]'(by rw [sizeY5]; decide)) (x := .tmp 29) (y := .const (.int .i64 1)) rfl k 1 (hSk.ev (by simp [setS])) rfl (by rw [IntKind.wrap_i64]; omega)
    rw [this]
    simp
  refine MJ.mv hSl (o := (opsY 5)[2]'(by rw [sizeY5]; decide)) 30 7 (.int .i64 (k + 1 : Nat)) rfl (.inr rfl) rfl rfl (by omega) (by simp [setS]) fun tm Um hSm => MJ.regE ?_
  have kA : Kx wA (onT (onT (onT (onT wA Uj) Uk) Ul) Um) := Kx.heap rfl
  refine K tm _ tv' uv' _ ⟨hSm.sub (by simp [setS, DA.sl]), (kx_gr (kx7.trans k7T) g3 fun g hg => (own_lt hO hg).1).trans kA, owns_kx (own_gr otT g3 (own_ty otT hO (by decide))) kA, owns_kx g2 kA, fun i hi => ?_⟩
  obtain ⟨v, q1, q2⟩ := rowsA i hi
  exact ⟨v, q1, q2.kx kA⟩
end Go.Proofs.Ytcobehkadhcjiaa

/-
  keep.CrewShares: its first loop; what is asked behind Splits.
-/
namespace Go.Proofs.Ytcobehkadhcjiaa
open Go Go.Conc Go.ConcN Go.Conc.Lib Go.RowKit Go.Shelf
open Go.ConcR (Payload)

/-- A row of rows of numbers; nil has no capacity. -/
structure TabN (w : World) (p : Option Addr) (ws : List (List Int)) : Prop where
  at_ : ∀ j, j < ws.length → ∃ b off v, p = some ⟨b, off, none⟩ ∧ w.cell? ⟨b, off + j, none⟩ = some v ∧ Seg w v (ws.getD j []) ∧ Lies w.heap.size v ∧ ∃ q c, v = .slice q (ws.getD j []).length c ∧ (q = none → c = 0)
theorem TabN.kc {w w1 : World} {p : Option Addr} {ws : List (List Int)} (h : TabN w p ws) (k : Kc w w1) : TabN w1 p ws := ⟨fun j hj => by
  obtain ⟨b, off, v, e, hc, hs, hl, hn⟩ := h.at_ j hj
  exact ⟨b, off, v, e, k.cell _ _ hc, hs.kc k, hl.mono k.size, hn⟩⟩
theorem TabN.tab {w : World} {p : Option Addr} {ws : List (List Int)} (h : TabN w p ws) : TabW w p ws := ⟨fun j hj => by
  obtain ⟨b, off, v, e, hc, hs, hl, _⟩ := h.at_ j hj
  exact ⟨b, off, v, e, hc, hs, hl⟩⟩
theorem splE_zero {ts : List Int} {ws : List (List Int)} (hl : ts.length = ws.length) (h200 : ts.length ≤ 200) (h : ∀ i, i < ts.length → Bo.Plain.splitE (ts.getD i 0) (ws.getD i []) = 0) : splE ts ws = 0 := by
  unfold splE
  rw [if_neg (by omega)]
  exact firstE_miss fun i hi => by
    rw [spE_len] at hi
    rw [spE_at hi, h i hi]
    rfl
theorem DA.ok_at (D : DA) {k i : Nat} (h : i < k) : Bo.Plain.splitE ((D.tk k).getD i 0) ((D.uk k).getD i []) = 0 := by
  rw [D.tk_at h, D.uk_at h]
  refine Bo.Plain.splitE_ok (by have := Bo.Plain.wantL_len (D.ws.getD i []); omega) ⟨by omega, by omega⟩ (Bo.Plain.wantL_ok _)
theorem DA.zero (D : DA) {k : Nat} (h : k ≤ 12) : splE (D.tk k) (D.uk k) = 0 := splE_zero (by rw [D.tk_len, D.uk_len]) (by rw [D.tk_len]; omega) fun i hi => D.ok_at (by rw [D.tk_len] at hi; exact hi)
/-- What the first loop leaves. -/
theorem StA.out {D : DA} {t : Array Value} {w : World} {k : Nat} {tv uv : Value} {xs : List Value} (h : StA D t w k tv uv xs) : (∃ p c, tv = .slice p k c) ∧ Seg w tv (D.tk k) ∧ ∃ p c, uv = .slice p k c ∧ TabN w p (D.uk k) := by
  refine ⟨?_, ?_, ?_⟩
  · obtain ⟨p, c, e, _⟩ := own_slice h.ot
    exact ⟨p, c, e⟩
  · have := own_segI (w := w) (B := D.W0.heap.size) (v := tv) (l := D.tk k) (by rw [D.tk_len]; exact h.ot)
    exact this.1
  · obtain ⟨p, c, e, hc⟩ := owns_form h.ou
    refine ⟨p, c, e, ⟨fun j hj => ?_⟩⟩
    rw [D.uk_len] at hj
    obtain ⟨v, q1, q2, _⟩ := h.rows j hj
    obtain ⟨g, e2, hcell⟩ := hc j v q1
    rw [D.uk_at hj]
    obtain ⟨p3, c3, e3, e4⟩ := own_slice q2
    exact ⟨g, 0, v, e2, hcell, (own_segI q2).1, (own_segI q2).2, p3, c3, e3, e4⟩

variable [Shift] [Payload]
theorem loopA_mj (hP : OkP Try.prog S1 V1) {D : DA} (hD : OkA D) {L : WgLink} {ρ : Rj} {kk : List Item} {cs : List Frame} : ∀ (r : Nat) (t : Array Value) (w : World) (k : Nat) (tv uv : Value) (xs : List Value), k + r = 12 → StA D t w k tv uv xs →
    (∀ (t' : Array Value) (w' : World) (k' : Nat) (tv' uv' : Value) (xs' : List Value), k' ≤ 12 → StA D t' w' k' tv' uv' xs' → MJ Try.prog L S1 V1 ρ (bare 6 t') [] kk cs w') → MJ Try.prog L S1 V1 ρ (bare 6 t) [] (.code lpA :: .inLoop lpA :: .inBlock 0 :: kk) cs w := by
  have stay : ∀ {t t' : Array Value} {w : World} {k : Nat} {tv uv : Value} {xs : List Value} {U : Tape'} {b : Bool}, StA D t w k tv uv xs → Sl t' 112 [(0, .slice D.pa D.n D.ca), (1, .slice D.pb D.m D.cb), (4, .bool false), (5, tv), (6, uv), (7, .int .i64 k), (28, .bool b)] → StA D t' (onT w U) k tv uv xs := fun h hS =>
    ⟨hS.sub (by simp [DA.sl]), h.kx.trans (Kx.heap rfl), owns_kx h.ot (Kx.heap rfl), owns_kx h.ou (Kx.heap rfl), fun i hi => by
      obtain ⟨v, q1, q2⟩ := h.rows i hi
      exact ⟨v, q1, q2.kx (Kx.heap rfl)⟩⟩
  have stop : ∀ (t : Array Value) (w : World) (k : Nat) (tv uv : Value) (xs : List Value), k ≤ 12 → ¬ (k < D.n ∧ k < D.m ∧ k < 12) → StA D t w k tv uv xs →
      (∀ (t' : Array Value) (w' : World) (k' : Nat) (tv' uv' : Value) (xs' : List Value), k' ≤ 12 → StA D t' w' k' tv' uv' xs' → MJ Try.prog L S1 V1 ρ (bare 6 t') [] kk cs w') → MJ Try.prog L S1 V1 ρ (bare 6 t) [] (.code lpA :: .inLoop lpA :: .inBlock 0 :: kk) cs w := fun t w k tv uv xs hk hno h K => by
    rw [lpA_is]
    refine MJ.seq (MJ.seq (testA_mj hP D.pa D.n D.ca D.pb D.m D.cb k tv uv h.sl fun t1 U1 hS1 => ?_))
    refine MJ.cond (q := decide (k < D.n ∧ k < D.m ∧ k < 12)) rfl (hS1.ev (by simp)) ?_
    rw [decide_eq_false hno] at hS1 ⊢
    refine MJ.ctl (k1 := kk) (fun _ _ _ _ _ _ => stepG_exit rfl) ?_
    exact K _ _ _ _ _ _ hk (stay h hS1)
  intro r
  induction r with
  | zero =>
    intro t w k tv uv xs hr h K
    exact stop t w k tv uv xs (by omega) (by omega) h K
  | succ r ih =>
    intro t w k tv uv xs hr h K
    by_cases hyes : k < D.n ∧ k < D.m ∧ k < 12
    · rw [lpA_is]
      refine MJ.seq (MJ.seq (testA_mj hP D.pa D.n D.ca D.pb D.m D.cb k tv uv h.sl fun t1 U1 hS1 => ?_))
      refine MJ.cond (q := decide (k < D.n ∧ k < D.m ∧ k < 12)) rfl (hS1.ev (by simp)) ?_
      rw [decide_eq_true hyes] at hS1 ⊢
      refine MJ.ctl (k1 := .code (.seq (.block 1 (.seq (.region 6 (opsY 6) false) (.region 7 (opsY 7) false))) (.region 5 (opsY 5) false)) :: .inLoop lpA :: .inBlock 0 :: kk) (fun _ _ _ _ _ _ => stepG_skip) ?_
      refine roundA_mj hP hD t1 _ k tv uv xs hyes.1 hyes.2.1 hyes.2.2 (stay h hS1) fun t2 w2 tv2 uv2 xs2 h2 => ?_
      refine MJ.ctl (k1 := .code lpA :: .inLoop lpA :: .inBlock 0 :: kk) (fun _ _ _ _ _ _ => stepG_inLoop) ?_
      exact ih t2 w2 (k + 1) tv2 uv2 xs2 (by omega) h2 K
    · exact stop t w k tv uv xs (by omega) hyes h K

set_option maxHeartbeats 1000000 in
/-- Nothing is refused, and there are as many shares as there are totals. -/
theorem test9_mj (hP : OkP Try.prog S1 V1) {L : WgLink} {ρ : Rj} {kk : List Item} {cs : List Frame} {t : Array Value} {w : World} {l : List (Nat × Value)} (hS : Sl t 112 l) (p q : Option Addr) (n c c' : Nat) (h5 : (5, .slice p n c) ∈ l) (h8 : (8, .slice q n c') ∈ l) (h9 : (9, .int .i64 0) ∈ l) (hl : ∀ x ∈ l, x.1 < 53)
    (K : ∀ (t' : Array Value) (U : Tape'), Sl t' 112 ((61, .bool false) :: l) → MJ Try.prog L S1 V1 ρ (bare 6 t') [] kk cs (onT w U)) :
    MJ Try.prog L S1 V1 ρ (bare 6 t) [] (.code (.region 9 (opsY 9) false) :: kk) cs w := by
  refine MJ.reg (r := [0, 1, 2, 3, 4, 5, 6, 7, 8]) (by rw [sizeY9]; rfl) ?_
  refine MJ.fragR hP okY9 fun T => ?_
  have HK := hid (show ∀ (t' : Array Value) (U : Tape'), Sl t' 112 ((61, .bool false) :: l) → MJ Try.prog L S1 V1 ρ (bare 6 t') [] kk cs (onT (retape w T) U) from fun t' U h => K t' U h)
  clear K
  have up : ∀ {s d : Nat} {v u : Value} {l' : List (Nat × Value)}, (s, v) ∈ l' → s ≠ d → (s, v) ∈ setS d u l' := fun h hd => List.mem_cons_of_mem _ (List.mem_filter.2 ⟨h, by simpa using hd⟩)
  refine wo_vl hS (o := (opsY 9)[0]'(by rw [sizeY9]; decide)) 53 (.int .i64 0) rfl rfl rfl (by omega) (run_mv (x := .tmp 9) (.inl rfl) (hS.ev h9)) fun t1 h1 => ?_
  refine wo_vl h1 (o := (opsY 9)[1]'(by rw [sizeY9]; decide)) 54 (.bool false) rfl rfl rfl (by omega) (run_neq24 (x := .tmp 53) (y := .const (.int .i64 0)) rfl 0 0 (h1.ev (by simp [setS])) rfl) fun t2 h2 => ?_
  refine wo_vl h2 (o := (opsY 9)[2]'(by rw [sizeY9]; decide)) 55 (.bool false) rfl rfl rfl (by omega) (run_mv (x := .tmp 54) (.inl rfl) (h2.ev (by simp [setS]))) fun t3 h3 => ?_
  refine wo_vl h3 (o := (opsY 9)[3]'(by rw [sizeY9]; decide)) 56 (.slice q n c') rfl (wanted_of (o1 := (opsY 9)[2]'(by rw [sizeY9]; decide)) rfl rfl rfl (h3.get (by simp [setS]))) rfl (by omega) (run_mv (x := .tmp 8) (.inl rfl) (h3.ev (up (up (up h8 (by decide)) (by decide)) (by decide)))) fun t4 h4 => ?_
  refine wo_vl h4 (o := (opsY 9)[4]'(by rw [sizeY9]; decide)) 57 (.int .i64 n) rfl (wanted_of (o1 := (opsY 9)[2]'(by rw [sizeY9]; decide)) rfl rfl rfl (h4.get (by simp [setS]))) rfl (by omega) (run_len (x := .tmp 56) (ty := 23) (el := 22) rfl Try.underlying23 q n c' (h4.ev (by simp [setS]))) fun t5 h5' => ?_
  refine wo_vl h5' (o := (opsY 9)[5]'(by rw [sizeY9]; decide)) 58 (.slice p n c) rfl (wanted_of (o1 := (opsY 9)[2]'(by rw [sizeY9]; decide)) rfl rfl rfl (h5'.get (by simp [setS]))) rfl (by omega) (run_mv (x := .tmp 5) (.inl rfl) (h5'.ev (up (up (up (up (up h5 (by decide)) (by decide)) (by decide)) (by decide)) (by decide)))) fun t6 h6 => ?_
  refine wo_vl h6 (o := (opsY 9)[6]'(by rw [sizeY9]; decide)) 59 (.int .i64 n) rfl (wanted_of (o1 := (opsY 9)[2]'(by rw [sizeY9]; decide)) rfl rfl rfl (h6.get (by simp [setS]))) rfl (by omega) (run_len (x := .tmp 58) (ty := 22) (el := 3) rfl Try.underlying22 p n c (h6.ev (by simp [setS]))) fun t7 h7 => ?_
  refine wo_vl h7 (o := (opsY 9)[7]'(by rw [sizeY9]; decide)) 60 (.bool ((n : Int) != (n : Int))) rfl (wanted_of (o1 := (opsY 9)[2]'(by rw [sizeY9]; decide)) rfl rfl rfl (h7.get (by simp [setS]))) rfl (by omega) (run_neq3 (x := .tmp 57) (y := .tmp 59) rfl n n (h7.ev (by simp [setS])) (h7.ev (by simp [setS]))) fun t8 h8' => ?_
  rw [show ((n : Int) != (n : Int)) = false by simp] at h8'
  refine wo_vl h8' (o := (opsY 9)[8]'(by rw [sizeY9]; decide)) 61 (.bool false) rfl rfl rfl (by omega) (run_pickF (c := .tmp 55) (x := .const (.bool true)) (y := .tmp 60) rfl (h8'.ev (by simp [setS])) (h8'.ev (by simp [setS]))) fun t9 h9' => ?_
  refine wo_nil ⟨rfl, rfl, fun U => HK.out _ U (h9'.sub fun x hx => ?_)⟩
  rcases List.mem_cons.1 hx with rfl | hx
  · exact List.mem_cons_self ..
  · have := hl x hx
    have up' : ∀ {d : Nat} {u : Value} {l' : List (Nat × Value)}, x ∈ l' → x.1 ≠ d → x ∈ setS d u l' := fun h hd => List.mem_cons_of_mem _ (List.mem_filter.2 ⟨h, by simpa using hd⟩)
    exact up' (up' (up' (up' (up' (up' (up' (up' (up' hx (by omega)) (by omega)) (by omega)) (by omega)) (by omega)) (by omega)) (by omega)) (by omega)) (by omega)
end Go.Proofs.Ytcobehkadhcjiaa

/-
  keep.CrewShares: its second loop.
-/
namespace Go.Proofs.Ytcobehkadhcjiaa
open Go Go.Conc Go.ConcN Go.Conc.Lib Go.RowKit Go.Shelf
open Go.ConcR (Payload)

structure DB where
  ts : List Int
  us : List (List Int)
  n : Nat
  pt : Option Addr
  ct : Nat
  pu : Option Addr
  cu : Nat
  g : Nat
  co : Nat
def DB.sl (D : DB) (j : Nat) : List (Nat × Value) := [(4, .bool false), (5, .slice D.pt D.n D.ct), (6, .slice D.pu D.n D.cu), (8, .slice (some ⟨D.g, 0, none⟩) D.n D.co), (10, .int .i64 j)]
structure OkB (D : DB) : Prop where
  ht : D.ts.length = D.n
  hu : D.us.length = D.n
  hn : D.n ≤ 12
  ok : ∀ i, i < D.n → Bo.Plain.splitE (D.ts.getD i 0) (D.us.getD i []) = 0
structure StB (D : DB) (t : Array Value) (w : World) (j : Nat) : Prop where
  sl : Sl t 112 (D.sl j)
  st : Seg w (.slice D.pt D.n D.ct) D.ts
  tu : TabN w D.pu D.us
  to : TabW w (some ⟨D.g, 0, none⟩) (spR D.ts D.us)

variable [Shift] [Payload]
set_option maxHeartbeats 1000000 in
theorem test15_mj (hP : OkP Try.prog S1 V1) {L : WgLink} {ρ : Rj} {kk : List Item} {cs : List Frame} {t : Array Value} {w : World} (D : DB) (j : Nat) (r v : Value) (hj : j < D.n) (hS : Sl t 112 ((11, r) :: (12, .bool true) :: D.sl j)) (l : List Int) (hl : l.length ≤ 1000000) (hr : Seg w r l) (hv : Seg w v l) (hc : w.cell? ⟨D.g, 0 + j, none⟩ = some v)
    (K : ∀ (t' : Array Value) (w' : World), Kc w w' → Sl t' 112 ((90, .bool false) :: D.sl j) → MJ Try.prog L S1 V1 ρ (bare 6 t') [] kk cs w') :
    MJ Try.prog L S1 V1 ρ (bare 6 t) [] (.code (.region 15 (opsY 15) false) :: kk) cs w := by
  refine MJ.reg (r := [0, 1, 2, 3, 4, 5, 6, 7, 8, 9, 10]) (by rw [sizeY15]; rfl) ?_
  refine MJ.fragR hP okY15 fun T => ?_
  obtain ⟨wT, hwT⟩ : ∃ wT, wT = retape w T := ⟨_, rfl⟩
  have kT : Kc w wT := Kc.heap (by rw [hwT]; rfl)
  rw [← hwT]
  clear hwT
  refine wo_vl hS (o := (opsY 15)[0]'(by rw [sizeY15]; decide)) 80 (.bool true) rfl rfl rfl (by omega) (run_mv (x := .tmp 12) (.inl rfl) (hS.ev (by simp))) fun t1 h1 => ?_
  refine wo_vl h1 (o := (opsY 15)[1]'(by rw [sizeY15]; decide)) 81 (.bool false) rfl rfl rfl (by omega) (run_not (x := .tmp 80) rfl true (h1.ev (by simp [setS]))) fun t2 h2 => ?_
  refine wo_vl h2 (o := (opsY 15)[2]'(by rw [sizeY15]; decide)) 82 (.bool false) rfl rfl rfl (by omega) (run_mv (x := .tmp 81) (.inl rfl) (h2.ev (by simp [setS]))) fun t3 h3 => ?_
  refine wo_vl h3 (o := (opsY 15)[3]'(by rw [sizeY15]; decide)) 83 (.slice (some ⟨D.g, 0, none⟩) D.n D.co) rfl (wanted_of (o1 := (opsY 15)[2]'(by rw [sizeY15]; decide)) rfl rfl rfl (h3.get (by simp [setS]))) rfl (by omega) (run_mv (x := .tmp 8) (.inl rfl) (h3.ev (by simp [setS, DB.sl]))) fun t4 h4 => ?_
  refine wo_vl h4 (o := (opsY 15)[4]'(by rw [sizeY15]; decide)) 84 (.int .i64 j) rfl (wanted_of (o1 := (opsY 15)[2]'(by rw [sizeY15]; decide)) rfl rfl rfl (h4.get (by simp [setS]))) rfl (by omega) (run_mv (x := .tmp 10) (.inl rfl) (h4.ev (by simp [setS, DB.sl]))) fun t5 h5 => ?_
  refine wo_vl h5 (o := (opsY 15)[5]'(by rw [sizeY15]; decide)) 85 (.pointer (some ⟨D.g, 0 + j, none⟩)) rfl (wanted_of (o1 := (opsY 15)[2]'(by rw [sizeY15]; decide)) rfl rfl rfl (h5.get (by simp [setS]))) rfl (by omega) (run_ix (x := .tmp 83) (y := .tmp 84) (ty := 23) (el := 22) rfl Try.underlying23 (by kernel_rfl) D.g 0 D.n D.co j (h5.ev (by simp [setS])) (h5.ev (by simp [setS])) hj) fun t6 h6 => ?_
  refine wo_vl h6 (o := (opsY 15)[6]'(by rw [sizeY15]; decide)) 86 v rfl (wanted_of (o1 := (opsY 15)[2]'(by rw [sizeY15]; decide)) rfl rfl rfl (h6.get (by simp [setS]))) rfl (by omega) (run_ld22 (x := .tmp 85) rfl _ _ (h6.ev (by simp [setS])) (kT.cell _ _ hc)) fun t7 h7 => ?_
  refine wo_vl h7 (o := (opsY 15)[7]'(by rw [sizeY15]; decide)) 87 r rfl (wanted_of (o1 := (opsY 15)[2]'(by rw [sizeY15]; decide)) rfl rfl rfl (h7.get (by simp [setS]))) rfl (by omega) (run_mv (x := .tmp 11) (.inl rfl) (h7.ev (by simp [setS, DB.sl]))) fun t8 h8 => ?_
  have a1 : Act.eval ⟨t8, []⟩ (.tmp 86) = v := h8.ev (by simp [setS])
  have a2 : Act.eval ⟨t8, []⟩ (.tmp 87) = r := h8.ev (by simp [setS])
  refine wo_call h8 (o := (opsY 15)[8]'(by rw [sizeY15]; decide)) 88 18 #[v, r] (fun u w1 => u = .bool true ∧ Kc wT w1) rfl rfl (wanted_of (o1 := (opsY 15)[2]'(by rw [sizeY15]; decide)) rfl rfl rfl (h8.get (by simp [setS]))) (by omega) ?_ ?_ ?_
  · rw [run_call (g := 18) (xs := #[.tmp 86, .tmp 87]) (tys := #[22, 22]) rfl rfl eg18]
    simp only [List.map_toArray, List.map_cons, List.map_nil, a1, a2]
  · refine (Bo.keep.same_any v r l l hl wT (hv.kc kT) (hr.kc kT)).mono ?_
    rintro e w1 ⟨rfl, q, rfl⟩
    exact ⟨_, rfl, by rw [decide_eq_true rfl], kc_drewN _ q⟩
  rintro u w1 t9 ⟨rfl, k1⟩ h9
  refine wo_vl h9 (o := (opsY 15)[9]'(by rw [sizeY15]; decide)) 89 (.bool false) rfl (wanted_of (o1 := (opsY 15)[2]'(by rw [sizeY15]; decide)) rfl rfl rfl (h9.get (by simp [setS]))) rfl (by omega) (run_not (x := .tmp 88) rfl true (h9.ev (by simp [setS]))) fun ta ha => ?_
  refine wo_vl ha (o := (opsY 15)[10]'(by rw [sizeY15]; decide)) 90 (.bool false) rfl rfl rfl (by omega) (run_pickF (c := .tmp 82) (x := .const (.bool true)) (y := .tmp 89) rfl (ha.ev (by simp [setS])) (ha.ev (by simp [setS]))) fun tb hb => ?_
  exact wo_nil ⟨rfl, rfl, fun U => K _ _ ((kT.trans k1).trans (Kc.heap rfl)) (hb.sub (by simp [setS, DB.sl]))⟩

set_option maxHeartbeats 1000000 in
theorem roundB_mj (hP : OkP Try.prog S1 V1) {L : WgLink} {ρ : Rj} {kk : List Item} {cs : List Frame} {D : DB} (hD : OkB D) (t : Array Value) (w : World) (j : Nat) (hj : j < D.n) (h : StB D t w j)
    (K : ∀ (t' : Array Value) (w' : World), StB D t' w' (j + 1) → Kc w w' → MJ Try.prog L S1 V1 ρ (bare 6 t') [] kk cs w') :
    MJ Try.prog L S1 V1 ρ (bare 6 t) [] (.code (.seq (.block 3 (.seq (.region 14 (opsY 14) true) (.seq (.region 15 (opsY 15) false) (.cond (.tmp 90) (.seq (.region 16 (opsY 16) false) .ret) .skip)))) (.region 13 (opsY 13) false)) :: kk) cs w := by
  have hts := hD.ht
  have hus := hD.hu
  obtain ⟨ba, oa, hpa, hx⟩ : ∃ ba oa, D.pt = some ⟨ba, oa, none⟩ ∧ w.cell? ⟨ba, oa + j, none⟩ = some (.int .i64 (D.ts.getD j 0)) := by
    rcases h.st with ⟨e, _⟩ | ⟨b, off, c, hv, hc⟩
    · rw [e] at hts; simp at hts; omega
    · injection hv with e1 e2 e3
      exact ⟨b, off, e1, hc j (by omega)⟩
  obtain ⟨bw, ow, vi, hpb, hvi, hsg, hly, qv, cv, rfl, hnil⟩ := h.tu.at_ j (by omega)
  obtain ⟨bo, oo, vo, hpo, hvo, hso, _⟩ := h.to.at_ j (by rw [spR_len]; omega)
  injection hpo with hpo
  injection hpo with e1 e2
  subst e1 e2
  rw [spR_at (by omega)] at hso
  refine MJ.seq (MJ.ctl (k1 := .code (.seq (.region 14 (opsY 14) true) (.seq (.region 15 (opsY 15) false) (.cond (.tmp 90) (.seq (.region 16 (opsY 16) false) .ret) .skip))) :: .inBlock 3 :: .code (.region 13 (opsY 13) false) :: kk) (fun _ _ _ _ _ _ => stepG_block) ?_)
  refine MJ.seq ?_
  refine pair_mj hP pairY h.sl.size (by decide) ba oa D.n D.ct bw ow D.n D.cu j (D.ts.getD j 0) _ (h.sl.get (by rw [← hpa]; simp [DB.sl])) (h.sl.get (by simp [DB.sl])) (h.sl.get (by rw [← hpb]; simp [DB.sl])) hj hj hx hvi (.bool true) (fun r w' => OwnI 0 w' r (Bo.Plain.splitV (D.ts.getD j 0) (D.us.getD j []))) (fun r a b hh hr => hr.heap hh) (fun w' k' => ?_) fun t3 w3 r z3 o3 e11 e12 hr k3 => ?_
  · obtain ⟨p', c', e, hW⟩ := Bo.seg_wants (hsg.kc k'.kc) (hly.mono k'.size)
    injection e with e1 _ e3
    subst e1 e3
    refine (Bo.shares_c _ (D.us.getD j []).length _ (D.us.getD j []) (D.ts.getD j 0) (hD.ok j hj) w' rfl hW hnil).mono ?_
    rintro e w'' ⟨g, rfl, hR, _, hb⟩
    refine ⟨_, rfl, .inr ⟨g, (D.us.getD j []).length, ?_, ?_, Nat.zero_le _⟩, Kx.below hb⟩
    · rw [Bo.Plain.splitV_ok (hD.ok j hj), Bo.Plain.split_len]
    · rw [Bo.Plain.splitV_ok (hD.ok j hj)]; exact hR
  have hS3 : Sl t3 112 ((11, r) :: (12, .bool true) :: D.sl j) := by
    refine ⟨z3, fun p hp => ?_⟩
    simp only [DB.sl, List.mem_cons, List.not_mem_nil, or_false] at hp
    rcases hp with rfl | rfl | rfl | rfl | rfl | rfl | rfl
    · exact e11
    · exact e12
    · exact (o3 4 (by decide)).trans (h.sl.get (by simp [DB.sl]))
    · exact (o3 5 (by decide)).trans (h.sl.get (by simp [DB.sl]))
    · exact (o3 6 (by decide)).trans (h.sl.get (by simp [DB.sl]))
    · exact (o3 8 (by decide)).trans (h.sl.get (by simp [DB.sl]))
    · exact (o3 10 (by decide)).trans (h.sl.get (by simp [DB.sl]))
  refine MJ.seq ?_
  refine test15_mj hP D j r vo hj hS3 (Bo.Plain.splitV (D.ts.getD j 0) (D.us.getD j [])) (Bo.Plain.splitV_len _ _) hr.seg (hso.kc k3.kc) (k3.kc.cell _ _ hvo) fun t4 w4 k4 hS4 => ?_
  refine MJ.cond (q := false) rfl (hS4.ev (by simp)) ?_
  refine MJ.ctl (k1 := .inBlock 3 :: .code (.region 13 (opsY 13) false) :: kk) (fun _ _ _ _ _ _ => stepG_skip) ?_
  refine MJ.ctl (k1 := .code (.region 13 (opsY 13) false) :: kk) (fun _ _ _ _ _ _ => stepG_inBlock) ?_
  refine MJ.reg (r := [0, 1, 2]) (by rw [sizeY13]; rfl) ?_
  refine MJ.mv hS4 (o := (opsY 13)[0]'(by rw [sizeY13]; decide)) 10 66 (.int .i64 j) rfl (.inl rfl) rfl rfl (by omega) (by simp [DB.sl]) fun t5 U5 hS5 => ?_
  refine MJ.vl hS5 (o := (opsY 13)[1]'(by rw [sizeY13]; decide)) 67 (.int .i64 (j + 1 : Nat)) rfl rfl rfl (by omega) (by kernel_rfl) (fun T => ?_) fun t6 U6 hS6 => ?_
  · have := run_addi (P := Try.prog) (e := Act.eval ⟨t5, []⟩) (w := retape (onT w4 U5) T) (o := (opsY 13)[1]'(by rw [sizeY13]; decide)) (x := .tmp 66) (y := .const (.int .i64 1)) rfl j 1 (hS5.ev (by simp [setS])) rfl (by rw [IntKind.wrap_i64]; have := hD.hn; omega)
    rw [this]
    simp
  refine MJ.mv hS6 (o := (opsY 13)[2]'(by rw [sizeY13]; decide)) 67 10 (.int .i64 (j + 1 : Nat)) rfl (.inr rfl) rfl rfl (by omega) (by simp [setS]) fun t7 U7 hS7 => MJ.regE ?_
  have kk' : Kc w (onT (onT (onT w4 U5) U6) U7) := (k3.kc.trans k4).trans (Kc.heap rfl)
  exact K t7 _ ⟨hS7.sub (by simp [setS, DB.sl]), h.st.kc kk', h.tu.kc kk', h.to.kc kk'⟩ kk'

theorem loopB_mj (hP : OkP Try.prog S1 V1) {L : WgLink} {ρ : Rj} {kk : List Item} {cs : List Frame} {D : DB} (hD : OkB D) : ∀ (r : Nat) (t : Array Value) (w : World) (j : Nat), j + r = D.n → StB D t w j →
    (∀ (t' : Array Value) (w' : World), StB D t' w' D.n → Kc w w' → MJ Try.prog L S1 V1 ρ (bare 6 t') [] kk cs w') → MJ Try.prog L S1 V1 ρ (bare 6 t) [] (.code lpB :: .inLoop lpB :: .inBlock 2 :: kk) cs w := by
  have head : ∀ (t : Array Value) (w : World) (j : Nat) (k' : List Item), StB D t w j → (∀ (t' : Array Value) (U : Tape'), Sl t' 112 ((65, .bool (decide ((j : Int) < (D.n : Int)))) :: D.sl j) → MJ Try.prog L S1 V1 ρ (bare 6 t') [] k' cs (onT w U)) →
      MJ Try.prog L S1 V1 ρ (bare 6 t) [] (.code (.region 12 (opsY 12) false) :: k') cs w := fun t w j k' h K => by
    refine MJ.reg (r := [0, 1, 2, 3]) (by rw [sizeY12]; rfl) ?_
    refine MJ.mv h.sl (o := (opsY 12)[0]'(by rw [sizeY12]; decide)) 10 62 (.int .i64 j) rfl (.inl rfl) rfl rfl (by omega) (by simp [DB.sl]) fun t1 U1 hS1 => ?_
    refine MJ.mv hS1 (o := (opsY 12)[1]'(by rw [sizeY12]; decide)) 5 63 (.slice D.pt D.n D.ct) rfl (.inl rfl) rfl rfl (by omega) (by simp [setS, DB.sl]) fun t2 U2 hS2 => ?_
    refine MJ.vl hS2 (o := (opsY 12)[2]'(by rw [sizeY12]; decide)) 64 (.int .i64 D.n) rfl rfl rfl (by omega) (by kernel_rfl) (fun T => run_len (x := .tmp 63) (ty := 22) (el := 3) rfl Try.underlying22 D.pt D.n D.ct (hS2.ev (by simp [setS]))) fun t3 U3 hS3 => ?_
    refine MJ.vl hS3 (o := (opsY 12)[3]'(by rw [sizeY12]; decide)) 65 (.bool (decide ((j : Int) < (D.n : Int)))) rfl rfl rfl (by omega) (by kernel_rfl) (fun T => run_lss (x := .tmp 62) (y := .tmp 64) rfl j D.n (hS3.ev (by simp [setS])) (hS3.ev (by simp [setS]))) fun t4 U4 hS4 => MJ.regE ?_
    exact K t4 U4 (hS4.sub (by simp [setS, DB.sl]))
  have stay : ∀ {t t' : Array Value} {w : World} {j : Nat} {U : Tape'} {b : Bool}, StB D t w j → Sl t' 112 ((65, .bool b) :: D.sl j) → StB D t' (onT w U) j := fun h hS =>
    ⟨hS.sub fun p hp => List.mem_cons_of_mem _ hp, h.st.kc (Kc.heap rfl), h.tu.kc (Kc.heap rfl), h.to.kc (Kc.heap rfl)⟩
  intro r
  induction r with
  | zero =>
    intro t w j hr h K
    have hj : j = D.n := by omega
    subst hj
    rw [lpB_is]
    refine MJ.seq (MJ.seq (head t w _ _ h fun t1 U1 hS1 => ?_))
    refine MJ.cond (q := decide ((D.n : Int) < (D.n : Int))) rfl (hS1.ev (by simp)) ?_
    rw [decide_eq_false (by omega)] at hS1 ⊢
    refine MJ.ctl (k1 := kk) (fun _ _ _ _ _ _ => stepG_exit rfl) ?_
    exact K _ _ (stay h hS1) (Kc.heap rfl)
  | succ r ih =>
    intro t w j hr h K
    rw [lpB_is]
    refine MJ.seq (MJ.seq (head t w _ _ h fun t1 U1 hS1 => ?_))
    refine MJ.cond (q := decide ((j : Int) < (D.n : Int))) rfl (hS1.ev (by simp)) ?_
    rw [decide_eq_true (by omega)] at hS1 ⊢
    refine MJ.ctl (k1 := .code (.seq (.block 3 (.seq (.region 14 (opsY 14) true) (.seq (.region 15 (opsY 15) false) (.cond (.tmp 90) (.seq (.region 16 (opsY 16) false) .ret) .skip)))) (.region 13 (opsY 13) false)) :: .inLoop lpB :: .inBlock 2 :: kk) (fun _ _ _ _ _ _ => stepG_skip) ?_
    refine roundB_mj hP hD t1 _ j (by omega) (stay h hS1) fun t2 w2 h2 k2 => ?_
    refine MJ.ctl (k1 := .code lpB :: .inLoop lpB :: .inBlock 2 :: kk) (fun _ _ _ _ _ _ => stepG_inLoop) ?_
    exact ih t2 w2 (j + 1) (by omega) h2 fun t3 w3 h3 k3 => K t3 w3 h3 (((Kc.onT w U1).trans k2).trans k3)
end Go.Proofs.Ytcobehkadhcjiaa
