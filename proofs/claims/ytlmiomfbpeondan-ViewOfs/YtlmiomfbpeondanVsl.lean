/-
  Are two things told alike?
-/
import Derived.Test.YtlmiomfbpeondanVo
import Derived.Deep.QuietTactic
import Derived.BigQuiet
import Derived.Shelf.SlSortCmp.QuietGrown
namespace Go.Proofs.Ytlmiomfbpeondan.Vi
open Go.RowKit Go.Shelf Go.Sort

set_option maxHeartbeats 400000 in
theorem sameI_nil (p1 p2 : Option Addr) (c1 c2 : Nat) (w : World) :
    Calls Try.prog 27 #[.slice p1 0 c1, .slice p2 0 c2] w fun e w' => e = .returned (.bool true) ∧ ∃ q, w' = w.drewN q := by
  go_enter Try.func27, Try.ntmps27
  go_wp2
  refine wp_loop_rounds 1 ?_
  rw [rounds_succ]
  go_wp2
  go_ret
  exact ⟨rfl, 0, rfl⟩
set_option maxHeartbeats 400000 in
theorem sameI_two (b1 o1 c1 b2 o2 c2 n : Nat) (l : List Int) (hn : l.length = n) (hl : n ≤ 9223372036854775807) (w : World)
    (h1 : ∀ j, j < l.length → w.cell? ⟨b1, o1 + j, none⟩ = some (.int .i64 (l.getD j 0)))
    (h2 : ∀ j, j < l.length → w.cell? ⟨b2, o2 + j, none⟩ = some (.int .i64 (l.getD j 0))) :
    Calls Try.prog 27 #[.slice (some ⟨b1, o1, none⟩) n c1, .slice (some ⟨b2, o2, none⟩) n c2] w fun e w' => e = .returned (.bool true) ∧ ∃ q, w' = w.drewN q := by
  have H1 := hid h1
  have H2 := hid h2
  have HN := hid hn
  clear h1 h2 hn
  go_enter Try.func27, Try.ntmps27
  go_wp2
  go_loopw [5] (fun i wr => ∃ k q : Nat, k ≤ n ∧ i = .int .i64 k ∧ wr = w.drewN q) (fun i _ => n - (intOf i).toNat)
  case atStart => exact ⟨0, 0, Nat.zero_le _, rfl, rfl⟩
  case round =>
    obtain ⟨k, q, hk, rfl, rfl⟩ := hrel
    by_cases hlt : k < n
    · have g1 := H1.out k (by rw [HN.out]; exact hlt)
      have g2 := H2.out k (by rw [HN.out]; exact hlt)
      have hlt' : (k : Int) < (n : Int) := by omega
      generalize l.getD k 0 = x at g1 g2
      have hx : (x != x) = false := by simp
      go_wp2
      go_quiet (fail)
      go_wp2
      go_roundw
      case rel => exact ⟨k + 1, _, by omega, by go_num, rfl⟩
      case measure => simp [intOf]; omega
    · go_wp2
      go_ret
      exact ⟨rfl, _, rfl⟩
theorem sameI_any {n : Nat} {p1 p2 : Option Addr} {c1 c2 : Nat} {l : List Int} (w : World) (hn : l.length = n) (hl : n ≤ 9223372036854775807) (h1 : encI.Holds w p1 l) (h2 : encI.Holds w p2 l) :
    Calls Try.prog 27 #[.slice p1 n c1, .slice p2 n c2] w fun e w' => e = .returned (.bool true) ∧ ∃ q, w' = w.drewN q := by
  by_cases h0 : 0 < l.length
  · obtain ⟨b1, o1, rfl, _, g1⟩ := h1.at 0 h0
    obtain ⟨b2, o2, rfl, _, g2⟩ := h2.at 0 h0
    refine sameI_two b1 o1 c1 b2 o2 c2 n l hn hl w (fun j hj => ?_) (fun j hj => ?_)
    · have := g1 j 0 _ hj (by decide) rfl
      rwa [show j * encI.n + 0 = j from by show j * 1 + 0 = j; omega] at this
    · have := g2 j 0 _ hj (by decide) rfl
      rwa [show j * encI.n + 0 = j from by show j * 1 + 0 = j; omega] at this
  · have e : n = 0 := by omega
    subst e
    exact sameI_nil p1 p2 c1 c2 w

set_option maxHeartbeats 400000 in
theorem sameB_nil (p1 p2 : Option Addr) (c1 c2 : Nat) (w : World) :
    Calls Try.prog 26 #[.slice p1 0 c1, .slice p2 0 c2] w fun e w' => e = .returned (.bool true) ∧ ∃ q, w' = w.drewN q := by
  go_enter Try.func26, Try.ntmps26
  go_wp2
  refine wp_loop_rounds 1 ?_
  rw [rounds_succ]
  go_wp2
  go_ret
  exact ⟨rfl, 0, rfl⟩
set_option maxHeartbeats 400000 in
theorem sameB_two (b1 o1 c1 b2 o2 c2 n : Nat) (l : List Int) (hn : l.length = n) (hl : n ≤ 9223372036854775807) (w : World)
    (h1 : ∀ j, j < l.length → w.cell? ⟨b1, o1 + j, none⟩ = some (.int .u8 (l.getD j 0)))
    (h2 : ∀ j, j < l.length → w.cell? ⟨b2, o2 + j, none⟩ = some (.int .u8 (l.getD j 0))) :
    Calls Try.prog 26 #[.slice (some ⟨b1, o1, none⟩) n c1, .slice (some ⟨b2, o2, none⟩) n c2] w fun e w' => e = .returned (.bool true) ∧ ∃ q, w' = w.drewN q := by
  have H1 := hid h1
  have H2 := hid h2
  have HN := hid hn
  clear h1 h2 hn
  go_enter Try.func26, Try.ntmps26
  go_wp2
  go_loopw [5] (fun i wr => ∃ k q : Nat, k ≤ n ∧ i = .int .i64 k ∧ wr = w.drewN q) (fun i _ => n - (intOf i).toNat)
  case atStart => exact ⟨0, 0, Nat.zero_le _, rfl, rfl⟩
  case round =>
    obtain ⟨k, q, hk, rfl, rfl⟩ := hrel
    by_cases hlt : k < n
    · have g1 := H1.out k (by rw [HN.out]; exact hlt)
      have g2 := H2.out k (by rw [HN.out]; exact hlt)
      have hlt' : (k : Int) < (n : Int) := by omega
      generalize l.getD k 0 = x at g1 g2
      have hx : (x != x) = false := by simp
      go_wp2
      go_quiet (fail)
      go_wp2
      go_roundw
      case rel => exact ⟨k + 1, _, by omega, by go_num, rfl⟩
      case measure => simp [intOf]; omega
    · go_wp2
      go_ret
      exact ⟨rfl, _, rfl⟩
theorem sameB_any {n : Nat} {p1 p2 : Option Addr} {c1 c2 : Nat} {l : List Int} (w : World) (hn : l.length = n) (hl : n ≤ 9223372036854775807) (h1 : encB.Holds w p1 l) (h2 : encB.Holds w p2 l) :
    Calls Try.prog 26 #[.slice p1 n c1, .slice p2 n c2] w fun e w' => e = .returned (.bool true) ∧ ∃ q, w' = w.drewN q := by
  by_cases h0 : 0 < l.length
  · obtain ⟨b1, o1, rfl, _, g1⟩ := h1.at 0 h0
    obtain ⟨b2, o2, rfl, _, g2⟩ := h2.at 0 h0
    refine sameB_two b1 o1 c1 b2 o2 c2 n l hn hl w (fun j hj => ?_) (fun j hj => ?_)
    · have := g1 j 0 _ hj (by decide) rfl
      rwa [show j * encB.n + 0 = j from by show j * 1 + 0 = j; omega] at this
    · have := g2 j 0 _ hj (by decide) rfl
      rwa [show j * encB.n + 0 = j from by show j * 1 + 0 = j; omega] at this
  · have e : n = 0 := by omega
    subst e
    exact sameB_nil p1 p2 c1 c2 w

theorem two_grownV (w : World) (a b : Obj) (q : Nat) : ((w.alloc a).alloc b).drewN q = grow (w.drewN q) #[a, b] := by
  rw [alloc_eq_grow, alloc_eq_grow, grow_grow]
  rfl
set_option maxHeartbeats 4000000 in
set_option maxRecDepth 100000 in
theorem sameTold_c (code who kc ki kf kh ku val : Int) (sent : List Ev) (frame report : List Int) (ps : Option Addr) (cs : Nat) (pf : Option Addr) (cf : Nat) (pr : Option Addr) (cr : Nat) (ps2 : Option Addr) (cs2 : Nat) (pf2 : Option Addr) (cf2 : Nat) (pr2 : Option Addr) (cr2 : Nat) (w : World)
    (h1 : TdI w (RT.mk ⟨code, who, ⟨kc, ki, kf, kh, ku⟩, val, sent, frame, report⟩ ps cs pf cf pr cr)) (h2 : TdI w (RT.mk ⟨code, who, ⟨kc, ki, kf, kh, ku⟩, val, sent, frame, report⟩ ps2 cs2 pf2 cf2 pr2 cr2)) (ls : sent.length ≤ 9223372036854775807) (lf : frame.length ≤ 9223372036854775807) (lr : report.length ≤ 9223372036854775807) :
    Calls Try.prog 15 #[.agg #[.int .i64 code, .int .i64 who, .int .i64 kc, .int .i64 ki, .int .i64 kf, .int .i64 kh, .int .i64 ku, .int .i64 val, .slice ps sent.length cs, .slice pf frame.length cf, .slice pr report.length cr], .agg #[.int .i64 code, .int .i64 who, .int .i64 kc, .int .i64 ki, .int .i64 kf, .int .i64 kh, .int .i64 ku, .int .i64 val, .slice ps2 sent.length cs2, .slice pf2 frame.length cf2, .slice pr2 report.length cr2]] w fun e w' => e = .returned (.bool true) ∧ ∃ q os', w' = grow (w.drewN q) os' := by
  generalize hsn : sent.length = sn at *
  generalize hfn : frame.length = fn at *
  generalize hrn : report.length = rn at *
  obtain ⟨W, hW⟩ : ∃ W, W = (w.alloc (.cells #[.int .i64 code, .int .i64 who, .int .i64 kc, .int .i64 ki, .int .i64 kf, .int .i64 kh, .int .i64 ku, .int .i64 val, .slice ps sn cs, .slice pf fn cf, .slice pr rn cr] 41)).alloc (.cells #[.int .i64 code, .int .i64 who, .int .i64 kc, .int .i64 ki, .int .i64 kf, .int .i64 kh, .int .i64 ku, .int .i64 val, .slice ps2 sn cs2, .slice pf2 fn cf2, .slice pr2 rn cr2] 41) := ⟨_, rfl⟩
  have hsz : W.heap.size = w.heap.size + 2 := by rw [hW]; simp
  have bW : Below w.heap.size w W := by rw [hW]; exact ((Below.refl _ _).alloc (Nat.le_refl _) _).alloc (by simp) _
  have ta : W.rowIs w.heap.size 41 11 (RT.mk ⟨code, who, ⟨kc, ki, kf, kh, ku⟩, val, sent, frame, report⟩ ps cs pf cf pr cr).cell := by
    rw [hW, ← hsn, ← hfn, ← hrn]; exact (rowT_new w (RT.mk ⟨code, who, ⟨kc, ki, kf, kh, ku⟩, val, sent, frame, report⟩ ps cs pf cf pr cr).cell).alloc _
  have tb : W.rowIs (w.heap.size + 1) 41 11 (RT.mk ⟨code, who, ⟨kc, ki, kf, kh, ku⟩, val, sent, frame, report⟩ ps2 cs2 pf2 cf2 pr2 cr2).cell := by
    have e : (w.alloc (.cells #[.int .i64 code, .int .i64 who, .int .i64 kc, .int .i64 ki, .int .i64 kf, .int .i64 kh, .int .i64 ku, .int .i64 val, .slice ps sn cs, .slice pf fn cf, .slice pr rn cr] 41)).heap.size = w.heap.size + 1 := by simp
    rw [hW, ← e, ← hsn, ← hfn, ← hrn]
    exact rowT_new _ (RT.mk ⟨code, who, ⟨kc, ki, kf, kh, ku⟩, val, sent, frame, report⟩ ps2 cs2 pf2 cf2 pr2 cr2).cell
  have HG := hid (fun q => show W.drewN q = grow (w.drewN q) _ by rw [hW]; exact two_grownV _ _ _ _)
  have KB := hid (fun q => sameB_any (c1 := cf) (c2 := cf2) (W.drewN q) hfn lf ((h1.f.holds.grow bW).drew q) ((h2.f.holds.grow bW).drew q))
  have KI := hid (fun q => sameI_any (c1 := cr) (c2 := cr2) (W.drewN q) hrn lr ((h1.r.holds.grow bW).drew q) ((h2.r.holds.grow bW).drew q))
  have V1 := hid (h1.s.holds.grow bW)
  have V2 := hid (h2.s.holds.grow bW)
  have HSN := hid hsn
  obtain ⟨H, hH⟩ : ∃ H, H = w.heap.size := ⟨_, rfl⟩
  rw [← hH] at ta tb
  have HH := hid hH
  have HW := hid hW
  have a0 : W.cell? ⟨H, 0, none⟩ = some (.int .i64 code) := by rw [ta.cell (i := 0) (by decide)]; rfl
  have a1 : W.cell? ⟨H, 1, none⟩ = some (.int .i64 who) := by rw [ta.cell (i := 1) (by decide)]; rfl
  have a2 : W.cell? ⟨H, 2, none⟩ = some (.int .i64 kc) := by rw [ta.cell (i := 2) (by decide)]; rfl
  have a3 : W.cell? ⟨H, 3, none⟩ = some (.int .i64 ki) := by rw [ta.cell (i := 3) (by decide)]; rfl
  have a4 : W.cell? ⟨H, 4, none⟩ = some (.int .i64 kf) := by rw [ta.cell (i := 4) (by decide)]; rfl
  have a5 : W.cell? ⟨H, 5, none⟩ = some (.int .i64 kh) := by rw [ta.cell (i := 5) (by decide)]; rfl
  have a6 : W.cell? ⟨H, 6, none⟩ = some (.int .i64 ku) := by rw [ta.cell (i := 6) (by decide)]; rfl
  have a7 : W.cell? ⟨H, 7, none⟩ = some (.int .i64 val) := by rw [ta.cell (i := 7) (by decide)]; rfl
  have a8 : W.cell? ⟨H, 8, none⟩ = some (.slice ps sn cs) := by rw [ta.cell (i := 8) (by decide)]; show some (Value.slice _ _ _) = _; rw [hsn]
  have a9 : W.cell? ⟨H, 9, none⟩ = some (.slice pf fn cf) := by rw [ta.cell (i := 9) (by decide)]; show some (Value.slice _ _ _) = _; rw [hfn]
  have a10 : W.cell? ⟨H, 10, none⟩ = some (.slice pr rn cr) := by rw [ta.cell (i := 10) (by decide)]; show some (Value.slice _ _ _) = _; rw [hrn]
  have b0 : W.cell? ⟨H + 1, 0, none⟩ = some (.int .i64 code) := by rw [tb.cell (i := 0) (by decide)]; rfl
  have b1 : W.cell? ⟨H + 1, 1, none⟩ = some (.int .i64 who) := by rw [tb.cell (i := 1) (by decide)]; rfl
  have b2 : W.cell? ⟨H + 1, 2, none⟩ = some (.int .i64 kc) := by rw [tb.cell (i := 2) (by decide)]; rfl
  have b3 : W.cell? ⟨H + 1, 3, none⟩ = some (.int .i64 ki) := by rw [tb.cell (i := 3) (by decide)]; rfl
  have b4 : W.cell? ⟨H + 1, 4, none⟩ = some (.int .i64 kf) := by rw [tb.cell (i := 4) (by decide)]; rfl
  have b5 : W.cell? ⟨H + 1, 5, none⟩ = some (.int .i64 kh) := by rw [tb.cell (i := 5) (by decide)]; rfl
  have b6 : W.cell? ⟨H + 1, 6, none⟩ = some (.int .i64 ku) := by rw [tb.cell (i := 6) (by decide)]; rfl
  have b7 : W.cell? ⟨H + 1, 7, none⟩ = some (.int .i64 val) := by rw [tb.cell (i := 7) (by decide)]; rfl
  have b8 : W.cell? ⟨H + 1, 8, none⟩ = some (.slice ps2 sn cs2) := by rw [tb.cell (i := 8) (by decide)]; show some (Value.slice _ _ _) = _; rw [hsn]
  have b9 : W.cell? ⟨H + 1, 9, none⟩ = some (.slice pf2 fn cf2) := by rw [tb.cell (i := 9) (by decide)]; show some (Value.slice _ _ _) = _; rw [hfn]
  have b10 : W.cell? ⟨H + 1, 10, none⟩ = some (.slice pr2 rn cr2) := by rw [tb.cell (i := 10) (by decide)]; show some (Value.slice _ _ _) = _; rw [hrn]
  clear ta tb h1 h2 bW hsz hW hH hsn hfn hrn
  go_enter Try.func15, Try.ntmps15
  go_upto_region 1 with fail
  rw [← HW.out, ← HH.out]
  clear HW HH
  have K := KB.out 0
  rw [show W.drewN 0 = W from rfl] at K
  go_wp2_with fail
  refine K.mono ?_
  rintro e w1 ⟨rfl, q1, rfl⟩
  have K2 := KI.out q1
  clear K
  go_wp2_with fail
  refine K2.mono ?_
  rintro e w2 ⟨rfl, q2, hw2⟩
  have hq : w2 = W.drewN (q1 + q2) := by rw [hw2]; simp
  subst hq
  clear K2 hw2 KB KI
  go_wp2
  go_loopw [5] (fun i wr => ∃ k q : Nat, k ≤ sn ∧ i = .int .i64 k ∧ wr = W.drewN q) (fun i _ => sn - (intOf i).toNat)
  case atStart => exact ⟨0, _, Nat.zero_le _, rfl, rfl⟩
  case round =>
    obtain ⟨k, q, hk, rfl, rfl⟩ := hrel
    by_cases hlt : k < sn
    · have hlt' : (k : Int) < (sn : Int) := by omega
      have hls : k < sent.length := by rw [HSN.out]; exact hlt
      obtain ⟨d1, o1, rfl, _, g1⟩ := V1.out.at default (by omega)
      obtain ⟨d2, o2, rfl, _, g2⟩ := V2.out.at default (by omega)
      have e0 := g1 k 0 _ hls (by decide) rfl
      have e1 := g1 k 1 _ hls (by decide) rfl
      have e2 := g1 k 2 _ hls (by decide) rfl
      have e3 := g1 k 3 _ hls (by decide) rfl
      have f0 := g2 k 0 _ hls (by decide) rfl
      have f1 := g2 k 1 _ hls (by decide) rfl
      have f2 := g2 k 2 _ hls (by decide) rfl
      have f3 := g2 k 3 _ hls (by decide) rfl
      rw [show ∀ x i, x + (k * encV.n + i) = x + k * 4 + i from fun x i => by show x + (k * 4 + i) = _; omega] at e0 e1 e2 e3 f0 f1 f2 f3
      rw [Nat.add_zero] at e0 f0
      generalize sent.getD k default = y at e0 e1 e2 e3 f0 f1 f2 f3
      obtain ⟨y0, y1, y2, y3⟩ := y
      dsimp only at e0 e1 e2 e3 f0 f1 f2 f3
      clear g1 g2
      go_wp2
      go_quiet (fail)
      go_wp2
      go_roundw
      case rel => exact ⟨k + 1, _, by omega, by go_num, rfl⟩
      case measure => simp [intOf]; omega
    · go_wp2
      go_ret
      exact ⟨rfl, _, _, HG.out _⟩

set_option maxHeartbeats 400000 in
theorem sameTolds_nil (p1 p2 : Option Addr) (c1 c2 : Nat) (w : World) :
    Calls Try.prog 6 #[.slice p1 0 c1, .slice p2 0 c2] w fun e w' => e = .returned (.bool true) ∧ Below w.heap.size w w' := by
  go_enter Try.func6, Try.ntmps6
  go_wp2
  refine wp_loop_rounds 1 ?_
  rw [rounds_succ]
  go_wp2
  go_ret
  exact ⟨rfl, Below.refl _ _⟩
theorem below_growV {B : Nat} {w w' : World} (h : Below B w w') (hB : B ≤ w'.heap.size) (n : Nat) (os : Array Obj) : Below B w (grow (w'.drewN n) os) :=
  h.trans ⟨rfl, rfl, rfl, by show w'.heap.size ≤ (w'.heap ++ os).size; simp, fun k hk => by
    show (w'.heap ++ os)[k]? = w'.heap[k]?
    rw [Array.getElem?_append_left (by omega)]⟩
/-- No list is longer than this. -/
structure Len (r : RT) : Prop where
  s : r.x.sent.length ≤ 9223372036854775807
  f : r.x.frame.length ≤ 9223372036854775807
  r : r.x.report.length ≤ 9223372036854775807
theorem view_len (c : Plain.Cf) (s : Int) (R : List RT) {w : World} {p : Option Addr} (h : InT w p R) (D : List RT) (hx : D.map (·.x) = viewV c s (R.map (·.x))) : D.length ≤ 9223372036854775807 ∧ ∀ r, r ∈ D → Len r := by
  have hsz := h.sz
  by_cases hE : viewE c s = 0
  · rw [viewV, if_pos hE] at hx
    refine ⟨?_, fun r hr => ?_⟩
    · have := congrArg List.length hx
      rw [viewL, List.length_map, List.length_map, List.length_map] at this
      omega
    · have hm : r.x ∈ viewL s (R.map (·.x)) := by rw [← hx]; exact List.mem_map.2 ⟨r, hr, rfl⟩
      obtain ⟨t, ht, e⟩ := List.mem_map.1 hm
      obtain ⟨y, hy, rfl⟩ := List.mem_map.1 ht
      have k := h.td y hy
      have k1 := k.sl
      have k2 := k.fl
      have k3 := k.rl
      cases hb : Plain.rdB s y.x.who with
      | true =>
        rw [hb] at e
        have e' : y.x = r.x := e
        exact ⟨by rw [← e']; omega, by rw [← e']; omega, by rw [← e']; omega⟩
      | false =>
        rw [hb] at e
        have e' : (⟨0, y.x.who, ⟨0, 0, 0, 0, 0⟩, 0, y.x.sent, [], y.x.report⟩ : Td) = r.x := e
        exact ⟨by rw [← e']; show y.x.sent.length ≤ _; omega, by rw [← e']; show ([] : List Int).length ≤ _; simp, by rw [← e']; show y.x.report.length ≤ _; omega⟩
  · rw [viewV, if_neg hE] at hx
    have : D = [] := List.map_eq_nil_iff.1 hx
    subst this
    exact ⟨by simp, fun _ hr => (nomatch hr)⟩
set_option maxHeartbeats 4000000 in
set_option maxRecDepth 100000 in
theorem sameTolds_c (D E : List RT) (n : Nat) (hD : D.length = n) (hn : n ≤ 9223372036854775807) (he : D.map (·.x) = E.map (·.x)) (hl : ∀ r, r ∈ D → Len r) (p1 p2 : Option Addr) (c1 c2 : Nat) (w : World) (h1 : OutT w p1 D) (h2 : OutT w p2 E) :
    Calls Try.prog 6 #[.slice p1 n c1, .slice p2 n c2] w fun e w' => e = .returned (.bool true) ∧ Below w.heap.size w w' := by
  have hE : E.length = n := by
    have := congrArg List.length he
    rw [List.length_map, List.length_map] at this
    omega
  by_cases h0 : 0 < n
  · have H1 := hid h1
    have H2 := hid h2
    obtain ⟨b1, o1, rfl, l1, g1⟩ := holdsT h1.hd (by omega)
    obtain ⟨b2, o2, rfl, l2, g2⟩ := holdsT h2.hd (by omega)
    have G1 := hid g1
    have G2 := hid g2
    have HE := hid he
    have HL := hid hl
    have HDN := hid hD
    have HEN := hid hE
    clear h1 h2 g1 g2 he hl hD hE
    have mixed : Try.prog.follows .mixedOrders = true := by kernel_rfl
    go_enter Try.func6, Try.ntmps6
    go_wp2
    go_loopg [5] n (fun gg s5 wr => ∃ k : Nat, k ≤ n ∧ n - k ≤ gg ∧ s5 = .int .i64 k ∧ Aside (Below w.heap.size w wr))
    case atStart => exact ⟨0, Nat.zero_le _, by omega, rfl, (show Aside _ from Below.refl _ _)⟩
    case round =>
      obtain ⟨k, hkk, hg, rfl, A⟩ := hrel
      by_cases hlt : k < n
      · have hltz : (k : Int) < (n : Int) := by omega
        have kD : k < D.length := by rw [HDN.out]; exact hlt
        have kE : k < E.length := by rw [HEN.out]; exact hlt
        have mD : D.getD k default ∈ D := by rw [List.getD_eq_getElem?_getD, List.getElem?_eq_getElem kD]; exact List.getElem_mem _
        have mE : E.getD k default ∈ E := by rw [List.getD_eq_getElem?_getD, List.getElem?_eq_getElem kE]; exact List.getElem_mem _
        have ex : (D.getD k default).x = (E.getD k default).x := by
          have e := congrArg (fun l => l[k]?) HE.out
          simp only [List.getElem?_map, List.getElem?_eq_getElem kD, List.getElem?_eq_getElem kE, Option.map_some, Option.some.injEq] at e
          rw [List.getD_eq_getElem?_getD, List.getElem?_eq_getElem kD, List.getD_eq_getElem?_getD, List.getElem?_eq_getElem kE]
          exact e
        have t1 := (H1.out.td _ mD).keep (Kt.of_below A.out)
        have t2 := (H2.out.td _ mE).keep (Kt.of_below A.out)
        have g1 := fun i hi => (A.out.cell (p := ⟨b1, o1 + (k * 11 + i), none⟩) l1).trans (G1.out k kD i hi)
        have g2 := fun i hi => (A.out.cell (p := ⟨b2, o2 + (k * 11 + i), none⟩) l2).trans (G2.out k kE i hi)
        have le := HL.out _ mD
        have w1 : b1 < wr.heap.size := Nat.lt_of_lt_of_le l1 A.out.size
        have w2 : b2 < wr.heap.size := Nat.lt_of_lt_of_le l2 A.out.size
        generalize D.getD k default = r1 at *
        generalize E.getD k default = r2 at *
        obtain ⟨⟨code, who, ⟨kc, ki, kf, kh, ku⟩, val, sent, frame, report⟩, ps, cs, pf, cf, pr, cr⟩ := r1
        obtain ⟨x2, ps2, cs2, pf2, cf2, pr2, cr2⟩ := r2
        dsimp only at ex
        subst ex
        have KS := fun q os => sameTold_c code who kc ki kf kh ku val sent frame report ps cs pf cf pr cr ps2 cs2 pf2 cf2 pr2 cr2 (grow (wr.drewN q) os) (t1.keep (Kt.of_below (below_growV (Below.refl _ _) (Nat.le_refl _) q os))) (t2.keep (Kt.of_below (below_growV (Below.refl _ _) (Nat.le_refl _) q os))) le.s le.f le.r
        have u0 : ∀ q os, (grow (wr.drewN q) os).cell? ⟨b1, o1 + k * 11, none⟩ = some (.int .i64 code) := fun q os => by have := cell_grown w1 (g1 0 (by decide)) q os; rwa [show o1 + (k * 11 + 0) = o1 + k * 11 by omega] at this
        have u1 : ∀ q os, (grow (wr.drewN q) os).cell? ⟨b1, o1 + k * 11 + 1, none⟩ = some (.int .i64 who) := fun q os => by have := cell_grown w1 (g1 1 (by decide)) q os; rwa [show o1 + (k * 11 + 1) = o1 + k * 11 + 1 by omega] at this
        have u2 : ∀ q os, (grow (wr.drewN q) os).cell? ⟨b1, o1 + k * 11 + 2, none⟩ = some (.int .i64 kc) := fun q os => by have := cell_grown w1 (g1 2 (by decide)) q os; rwa [show o1 + (k * 11 + 2) = o1 + k * 11 + 2 by omega] at this
        have u3 : ∀ q os, (grow (wr.drewN q) os).cell? ⟨b1, o1 + k * 11 + 3, none⟩ = some (.int .i64 ki) := fun q os => by have := cell_grown w1 (g1 3 (by decide)) q os; rwa [show o1 + (k * 11 + 3) = o1 + k * 11 + 3 by omega] at this
        have u4 : ∀ q os, (grow (wr.drewN q) os).cell? ⟨b1, o1 + k * 11 + 4, none⟩ = some (.int .i64 kf) := fun q os => by have := cell_grown w1 (g1 4 (by decide)) q os; rwa [show o1 + (k * 11 + 4) = o1 + k * 11 + 4 by omega] at this
        have u5 : ∀ q os, (grow (wr.drewN q) os).cell? ⟨b1, o1 + k * 11 + 5, none⟩ = some (.int .i64 kh) := fun q os => by have := cell_grown w1 (g1 5 (by decide)) q os; rwa [show o1 + (k * 11 + 5) = o1 + k * 11 + 5 by omega] at this
        have u6 : ∀ q os, (grow (wr.drewN q) os).cell? ⟨b1, o1 + k * 11 + 6, none⟩ = some (.int .i64 ku) := fun q os => by have := cell_grown w1 (g1 6 (by decide)) q os; rwa [show o1 + (k * 11 + 6) = o1 + k * 11 + 6 by omega] at this
        have u7 : ∀ q os, (grow (wr.drewN q) os).cell? ⟨b1, o1 + k * 11 + 7, none⟩ = some (.int .i64 val) := fun q os => by have := cell_grown w1 (g1 7 (by decide)) q os; rwa [show o1 + (k * 11 + 7) = o1 + k * 11 + 7 by omega] at this
        have u8 : ∀ q os, (grow (wr.drewN q) os).cell? ⟨b1, o1 + k * 11 + 8, none⟩ = some (.slice ps sent.length cs) := fun q os => by have := cell_grown w1 (g1 8 (by decide)) q os; rwa [show o1 + (k * 11 + 8) = o1 + k * 11 + 8 by omega] at this
        have u9 : ∀ q os, (grow (wr.drewN q) os).cell? ⟨b1, o1 + k * 11 + 9, none⟩ = some (.slice pf frame.length cf) := fun q os => by have := cell_grown w1 (g1 9 (by decide)) q os; rwa [show o1 + (k * 11 + 9) = o1 + k * 11 + 9 by omega] at this
        have u10 : ∀ q os, (grow (wr.drewN q) os).cell? ⟨b1, o1 + k * 11 + 10, none⟩ = some (.slice pr report.length cr) := fun q os => by have := cell_grown w1 (g1 10 (by decide)) q os; rwa [show o1 + (k * 11 + 10) = o1 + k * 11 + 10 by omega] at this
        have v0 : ∀ q os, (grow (wr.drewN q) os).cell? ⟨b2, o2 + k * 11, none⟩ = some (.int .i64 code) := fun q os => by have := cell_grown w2 (g2 0 (by decide)) q os; rwa [show o2 + (k * 11 + 0) = o2 + k * 11 by omega] at this
        have v1 : ∀ q os, (grow (wr.drewN q) os).cell? ⟨b2, o2 + k * 11 + 1, none⟩ = some (.int .i64 who) := fun q os => by have := cell_grown w2 (g2 1 (by decide)) q os; rwa [show o2 + (k * 11 + 1) = o2 + k * 11 + 1 by omega] at this
        have v2 : ∀ q os, (grow (wr.drewN q) os).cell? ⟨b2, o2 + k * 11 + 2, none⟩ = some (.int .i64 kc) := fun q os => by have := cell_grown w2 (g2 2 (by decide)) q os; rwa [show o2 + (k * 11 + 2) = o2 + k * 11 + 2 by omega] at this
        have v3 : ∀ q os, (grow (wr.drewN q) os).cell? ⟨b2, o2 + k * 11 + 3, none⟩ = some (.int .i64 ki) := fun q os => by have := cell_grown w2 (g2 3 (by decide)) q os; rwa [show o2 + (k * 11 + 3) = o2 + k * 11 + 3 by omega] at this
        have v4 : ∀ q os, (grow (wr.drewN q) os).cell? ⟨b2, o2 + k * 11 + 4, none⟩ = some (.int .i64 kf) := fun q os => by have := cell_grown w2 (g2 4 (by decide)) q os; rwa [show o2 + (k * 11 + 4) = o2 + k * 11 + 4 by omega] at this
        have v5 : ∀ q os, (grow (wr.drewN q) os).cell? ⟨b2, o2 + k * 11 + 5, none⟩ = some (.int .i64 kh) := fun q os => by have := cell_grown w2 (g2 5 (by decide)) q os; rwa [show o2 + (k * 11 + 5) = o2 + k * 11 + 5 by omega] at this
        have v6 : ∀ q os, (grow (wr.drewN q) os).cell? ⟨b2, o2 + k * 11 + 6, none⟩ = some (.int .i64 ku) := fun q os => by have := cell_grown w2 (g2 6 (by decide)) q os; rwa [show o2 + (k * 11 + 6) = o2 + k * 11 + 6 by omega] at this
        have v7 : ∀ q os, (grow (wr.drewN q) os).cell? ⟨b2, o2 + k * 11 + 7, none⟩ = some (.int .i64 val) := fun q os => by have := cell_grown w2 (g2 7 (by decide)) q os; rwa [show o2 + (k * 11 + 7) = o2 + k * 11 + 7 by omega] at this
        have v8 : ∀ q os, (grow (wr.drewN q) os).cell? ⟨b2, o2 + k * 11 + 8, none⟩ = some (.slice ps2 sent.length cs2) := fun q os => by have := cell_grown w2 (g2 8 (by decide)) q os; rwa [show o2 + (k * 11 + 8) = o2 + k * 11 + 8 by omega] at this
        have v9 : ∀ q os, (grow (wr.drewN q) os).cell? ⟨b2, o2 + k * 11 + 9, none⟩ = some (.slice pf2 frame.length cf2) := fun q os => by have := cell_grown w2 (g2 9 (by decide)) q os; rwa [show o2 + (k * 11 + 9) = o2 + k * 11 + 9 by omega] at this
        have v10 : ∀ q os, (grow (wr.drewN q) os).cell? ⟨b2, o2 + k * 11 + 10, none⟩ = some (.slice pr2 report.length cr2) := fun q os => by have := cell_grown w2 (g2 10 (by decide)) q os; rwa [show o2 + (k * 11 + 10) = o2 + k * 11 + 10 by omega] at this
        clear g1 g2 t1 t2 le mD mE kD kE w1 w2
        go_wp2
        go_quiet_grown (first | (go_at_call 15; exact Calls.grown_of (KS _ _)) | fail)
        obtain ⟨w5, hw5⟩ : ∃ w5, w5 = grow (wr.drewN nq) osq := ⟨_, rfl⟩
        rw [← hw5]
        have B5 := hid (show Below w.heap.size w w5 by rw [hw5]; exact below_growV A.out A.out.size nq osq)
        clear hw5 u0 v0 u1 v1 u2 v2 u3 v3 u4 v4 u5 v5 u6 v6 u7 v7 u8 v8 u9 v9 u10 v10 KS
        go_wp2
        go_roundg (n - (k + 1))
        case measure => omega
        case rel => exact ⟨k + 1, by omega, by omega, by go_num, (show Aside _ from B5.out)⟩
      · have hltz : ¬ (k : Int) < (n : Int) := by omega
        go_wp2
        go_ret
        exact ⟨rfl, A.out⟩
  · have e : n = 0 := by omega
    subst e
    exact sameTolds_nil p1 p2 c1 c2 w
end Go.Proofs.Ytlmiomfbpeondan.Vi
