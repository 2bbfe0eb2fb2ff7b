/-
  The document's ViewOf.
-/
import Derived.Test.YtlmiomfbpeondanVo
import Derived.Test.YtlmiomfbpeondanQ4
namespace Go.Proofs.Ytlmiomfbpeondan.Vi
open Go.RowKit Go.Shelf

set_option maxHeartbeats 400000 in
theorem rreadsV (s k : Nat) (hs : s < 256) (hk : k < 8) (w : World) :
    Calls Try.prog 14 #[.int .i64 s, .int .i64 k] w fun e w' => e = .returned (.bool (s / 2 ^ k % 2 == 1)) ∧ w' = w := by
  have e1 : (bits .and .i64 ((s : Int) / 2 ^ k) 1 == 1) = (s / 2 ^ k % 2 == 1) := LabP.reads_eq s k hs
  go_enter Try.func14, Try.ntmps14
  go_wp2
  go_ret
  exact ⟨rfl, rfl⟩
theorem wrap_pow8 (n : Nat) (hn : n ≤ 8) : wrap64 (2 ^ n) = 2 ^ n := by
  have hp := LabP.pow_le hn
  have e : ((2 : Int) ^ n) = ((2 ^ n : Nat) : Int) := by simp
  rw [e]
  generalize (2 ^ n : Nat) = x at hp
  unfold wrap64
  omega
/-- Is it one of the first j, and in the label? -/
def upB (s : Nat) (who : Int) (j : Nat) : Bool := decide (0 ≤ who) && (decide (who < j) && s / 2 ^ who.toNat % 2 == 1)
theorem upB_zero (s : Nat) (who : Int) : upB s who 0 = false := by
  unfold upB
  by_cases h : 0 ≤ who
  · rw [decide_eq_false (show ¬ who < ((0 : Nat) : Int) by omega)]; simp
  · rw [decide_eq_false h]; rfl
theorem upB_eq (s : Nat) (who : Int) (j : Nat) (h : who = j) : upB s who (j + 1) = (s / 2 ^ j % 2 == 1) := by
  subst h
  unfold upB
  rw [decide_eq_true (show (0 : Int) ≤ (j : Int) by omega), decide_eq_true (show (j : Int) < ((j + 1 : Nat) : Int) by omega), Int.toNat_natCast]; rfl
theorem upB_ne (s : Nat) (who : Int) (j : Nat) (h : ¬ who = j) : upB s who (j + 1) = upB s who j := by
  unfold upB
  by_cases h1 : who < (j : Int)
  · rw [decide_eq_true h1, decide_eq_true (show who < ((j + 1 : Nat) : Int) by omega)]
  · rw [decide_eq_false h1, decide_eq_false (show ¬ who < ((j + 1 : Nat) : Int) by omega)]
theorem upB_not (s : Nat) (who : Int) (j : Nat) (h : upB s who j = true) : ¬ who = j := fun e => by
  subst e
  unfold upB at h
  rw [decide_eq_false (show ¬ ((j : Int) < (j : Int)) by omega)] at h
  simp at h
theorem upB_all (s : Nat) (who : Int) (n : Nat) (h8 : n ≤ 8) (hs : s < 2 ^ n) : upB s who n = Plain.rdB s who := by
  unfold upB Plain.rdB
  rw [Int.toNat_natCast]
  by_cases h0 : 0 ≤ who
  · by_cases h1 : who < (n : Int)
    · rw [decide_eq_true h1, decide_eq_true (show who < 8 by omega)]
    · rw [decide_eq_false h1]
      have : s / 2 ^ who.toNat = 0 := Nat.div_eq_of_lt (Nat.lt_of_lt_of_le hs (Nat.pow_le_pow_right (by decide) (by omega)))
      rw [this]; simp
  · rw [decide_eq_false h0]; rfl
/-- The answer so far. -/
structure AnI (w wx : World) (v : Value) (D : List RT) : Prop where
  own : wx.ownsRow w.heap.size 41 11 v D.length (encT.vals D)
  td : ∀ r, r ∈ D → TdI wx r
  be : Below w.heap.size w wx
namespace AnI
variable {w wx wy : World} {v : Value} {D : List RT}
theorem start (w : World) : AnI w w (.slice none 0 0) [] := ⟨World.ownsRow_nil _ _ _ _, fun _ hr => (nomatch hr), Below.refl _ _⟩
theorem own_block {w w' : World} {B e s n : Nat} {v : Value} {xs : List Value} (h : w.ownsRow B e s v n xs) (hb : ∀ b, v.ownBlock = some b → w'.heap[b]? = w.heap[b]?) : w'.ownsRow B e s v n xs := by
  refine ⟨h.1, ?_⟩
  rcases h.2 with ⟨rfl, e⟩ | ⟨g, c, cur, rfl, h1, h2, h3⟩
  · exact .inl ⟨rfl, e⟩
  · exact .inr ⟨g, c, cur, rfl, h1, (hb g rfl).trans h2, h3⟩
theorem own_lt {w : World} {B e s n : Nat} {v : Value} {xs : List Value} (h : w.ownsRow B e s v n xs) {b : Nat} (hb : v.ownBlock = some b) : b < w.heap.size ∧ B ≤ b := by
  rcases h.2 with ⟨rfl, _⟩ | ⟨g', c, cur, rfl, hB, hb', _⟩
  · simp [Value.ownBlock] at hb
  · simp only [Value.ownBlock, Option.some.injEq] at hb
    rw [← hb]
    exact ⟨(Array.getElem?_eq_some_iff.1 hb').1, hB⟩
theorem grow (h : AnI w wx v D) (g : Below wx.heap.size wx wy) : AnI w wy v D := ⟨own_block h.own fun b hb => g.block b (own_lt h.own hb).1, fun r hr => (h.td r hr).keep (Kt.of_below g), h.be.trans (g.mono h.be.size)⟩
/-- A box beside it is written. -/
theorem apart (h : AnI w wx v D) {g : Nat} (kt : Kt wx wy) (ho : ∀ b, b ≠ g → wy.heap[b]? = wx.heap[b]?) (be : Below w.heap.size wx wy) (hg : v.ownBlock ≠ some g) : AnI w wy v D :=
  ⟨own_block h.own fun b hb => ho b (fun e => hg (by rw [hb, e])), fun r hr => (h.td r hr).keep kt, h.be.trans be⟩
/-- append of one. -/
theorem app (h : AnI w wx v D) (r : RT) (hr : TdI wx r) (hb : (D.length + 1) * 136 ≤ 140737488355328) {p : Option Addr} {c : Nat} (hp : encT.Holds wx p [r]) (hn : p ≠ none) :
    ∃ v' wy, (Builtin.append_ #[25, 25] 25 #[v, .slice p 1 c]).run Try.prog wx = .ok v' wy ∧ AnI w wy v' (D ++ [r]) := by
  obtain ⟨i0, hi, hz0, hz1, hz2⟩ := info_parts infoT
  obtain ⟨b, o, rfl, hlt, hc⟩ := hp (by simp)
  obtain ⟨v', w', h1, h2, h3, _⟩ := run_append_own (P := Try.prog) wx w.heap.size 25 25 41 i0 _ 11 136 Try.underlying25 hi hz0 hz1 hz2 rfl (by decide) v D.length _ h.own ⟨b, o, none⟩ 1 c (encT.vals [r])
    (encT.vals_len [r]) (fun j u hu => by rw [add_at']; exact hc j u hu) (encT.vals_cell [r]) (by unfold maxLen; omega) hb h.be.size
  rw [← encT.vals_app] at h2
  have kt : Kt wx w' := ⟨h3.size, fun b hb hno => h3.block b hb (fun e => by
    rcases h.own.2 with ⟨e2, _⟩ | ⟨g, cc, cur, e2, _, hg, _⟩
    · rw [e2] at e; simp [Value.ownBlock] at e
    · rw [e2] at e
      simp only [Value.ownBlock, Option.some.injEq] at e
      subst e
      exact hno _ _ hg)⟩
  refine ⟨v', w', h1, by rw [List.length_append]; exact h2, fun y hy => ?_, h.be.trans ⟨h3.os, h3.tape, h3.output, h3.size, fun b hb => h3.block b (Nat.lt_of_lt_of_le hb h.be.size) (fun e => by have := (own_lt h.own e.symm).2; omega)⟩⟩
  rcases List.mem_append.1 hy with m | m
  · exact (h.td y m).keep kt
  · have e : y = r := by simpa using m
    subst e
    exact hr.keep kt
end AnI
/-- One cell of a box of what is told is written. -/
theorem one_set {w : World} {g n : Nat} {f : Nat → Value} (h : w.rowIs g 41 n f) (i : Nat) (v : Value) : Kt w (w.setCell ⟨g, i, none⟩ v) ∧ (w.setCell ⟨g, i, none⟩ v).heap.size = w.heap.size ∧ (∀ b, b ≠ g → (w.setCell ⟨g, i, none⟩ v).heap[b]? = w.heap[b]?) ∧ ∀ B, B ≤ g → Below B w (w.setCell ⟨g, i, none⟩ v) := by
  have ho : ∀ b, b ≠ g → (w.setCell ⟨g, i, none⟩ v).heap[b]? = w.heap[b]? := fun b hb => Below.heap_setCell w ⟨g, i, none⟩ v b hb
  have hz : (w.setCell ⟨g, i, none⟩ v).heap.size = w.heap.size := by simp
  exact ⟨Kt.of_one (row_told h) hz ho, hz, ho, fun B hB => ⟨rfl, rfl, rfl, by rw [hz]; exact Nat.le_refl _, fun b hb => ho b (by omega)⟩⟩


/-- The boxes of a round. -/
structure XbI (w1 W0 W : World) (v : Value) (D : List RT) (HT HX : Nat) (t f : Nat → Value) : Prop where
  an : AnI w1 W v D
  tb : W.rowIs HT 41 11 t
  xr : W.rowIs HX 41 11 f
  ne : v.ownBlock ≠ some HX
  nt : HT ≠ HX
  lt : w1.heap.size ≤ HX
  lx : W0.heap.size ≤ HX
theorem XbI.grow {w1 W0 W W' : World} {v : Value} {D : List RT} {HT HX : Nat} {t f : Nat → Value} (h : XbI w1 W0 W v D HT HX t f) (b : Below W.heap.size W W') : XbI w1 W0 W' v D HT HX t f :=
  ⟨h.an.grow b, h.tb.of_block (b.block _ h.tb.lt), h.xr.of_block (b.block _ h.xr.lt), h.ne, h.nt, h.lt, h.lx⟩
theorem XbI.set {w1 W0 W : World} {v : Value} {D : List RT} {HT HX : Nat} {t f : Nat → Value} (h : XbI w1 W0 W v D HT HX t f) (i : Nat) (x : Value) : XbI w1 W0 (W.setCell ⟨HX, i, none⟩ x) v D HT HX t (fun j => if j = i then x else f j) :=
  have o := one_set h.xr i x
  ⟨h.an.apart o.1 o.2.2.1 (o.2.2.2 _ h.lt) h.ne, h.tb.of_block (o.2.2.1 _ h.nt), h.xr.set i x, h.ne, h.nt, h.lt, h.lx⟩

theorem zeros_kt {w : World} {g n : Nat} {f : Nat → Value} (h0 : w.rowIs g 41 n f) : Kt w ((((((((w.setCell ⟨g, 0, none⟩ (.int .i64 0)).setCell ⟨g, 2, none⟩ (.int .i64 0)).setCell ⟨g, 3, none⟩ (.int .i64 0)).setCell ⟨g, 4, none⟩ (.int .i64 0)).setCell ⟨g, 5, none⟩ (.int .i64 0)).setCell ⟨g, 6, none⟩ (.int .i64 0)).setCell ⟨g, 7, none⟩ (.int .i64 0)).setCell ⟨g, 9, none⟩ (.slice none 0 0)) := by
  have k0 := (one_set h0 0 (.int .i64 0)).1
  have h1 := h0.set 0 (.int .i64 0)
  have k2 := (one_set h1 2 (.int .i64 0)).1
  have h2 := h1.set 2 (.int .i64 0)
  have k3 := (one_set h2 3 (.int .i64 0)).1
  have h3 := h2.set 3 (.int .i64 0)
  have k4 := (one_set h3 4 (.int .i64 0)).1
  have h4 := h3.set 4 (.int .i64 0)
  have k5 := (one_set h4 5 (.int .i64 0)).1
  have h5 := h4.set 5 (.int .i64 0)
  have k6 := (one_set h5 6 (.int .i64 0)).1
  have h6 := h5.set 6 (.int .i64 0)
  have k7 := (one_set h6 7 (.int .i64 0)).1
  have h7 := h6.set 7 (.int .i64 0)
  have k9 := (one_set h7 9 (.slice none 0 0)).1
  have h8 := h7.set 9 (.slice none 0 0)
  exact ((((((k0.trans k2).trans k3).trans k4).trans k5).trans k6).trans k7).trans k9


set_option maxHeartbeats 1000000 in
theorem rof_form (c : Plain.Cf) (lv mv v : Value) (s : Int) (hmay : Plain.mayC c = false) (w : World) (hI : CfI w c lv mv) :
    Calls Try.prog 5 #[cfV c lv mv, v, .int .i64 s] w (OfP [] 4 w) := by
  have bA := hid (show Below w.heap.size w (w.alloc (boxC c lv mv)) from (Below.refl _ _).alloc (Nat.le_refl _) _)
  have HC := hid (CellC.start w c lv mv)
  have HI := hid (hI.grow bA.out)
  have KM := hid (fun W (I : CfI W c lv mv) => rmay_c c lv mv W I)
  have HMAY := hid hmay
  clear hI hmay
  obtain ⟨lp, lc, rfl⟩ := seg_len HI.out.sl
  obtain ⟨mp, mc, rfl⟩ := seg_len HI.out.sm
  obtain ⟨cn, ls, ct, ms, ccap⟩ := c
  dsimp only at *
  go_enter Try.func5, Try.ntmps5
  go_wp2_with fail
  refine (KM.out _ HI.out).mono ?_
  rintro e w1 ⟨rfl, hb⟩
  rw [HMAY.out]
  have B1 := hid (bA.out.trans (hb.mono bA.out.size))
  have C1 := hid (HC.out.below hb HC.out.lt)
  clear hb
  go_wp2
  go_ret2
  exact ⟨none, 0, [], rfl, rfl, OutT.nil _, B1.out⟩
set_option maxHeartbeats 1000000 in
theorem rof_low (c : Plain.Cf) (lv mv v : Value) (s : Int) (h : s < 0) (hmay : Plain.mayC c = true) (w : World) (hI : CfI w c lv mv) :
    Calls Try.prog 5 #[cfV c lv mv, v, .int .i64 s] w (OfP [] 2 w) := by
  have bA := hid (show Below w.heap.size w (w.alloc (boxC c lv mv)) from (Below.refl _ _).alloc (Nat.le_refl _) _)
  have HC := hid (CellC.start w c lv mv)
  have HI := hid (hI.grow bA.out)
  have KM := hid (fun W (I : CfI W c lv mv) => rmay_c c lv mv W I)
  have HMAY := hid hmay
  clear hI hmay
  obtain ⟨lp, lc, rfl⟩ := seg_len HI.out.sl
  obtain ⟨mp, mc, rfl⟩ := seg_len HI.out.sm
  obtain ⟨cn, ls, ct, ms, ccap⟩ := c
  dsimp only at *
  go_enter Try.func5, Try.ntmps5
  go_wp2_with fail
  refine (KM.out _ HI.out).mono ?_
  rintro e w1 ⟨rfl, hb⟩
  rw [HMAY.out]
  have B1 := hid (bA.out.trans (hb.mono bA.out.size))
  have C1 := hid (HC.out.below hb HC.out.lt)
  clear hb
  go_wp2
  go_ret2
  exact ⟨none, 0, [], rfl, rfl, OutT.nil _, B1.out⟩
set_option maxHeartbeats 1000000 in
theorem rof_more (c : Plain.Cf) (lv mv v : Value) (s : Int) (m : Nat) (hm : c.n = m) (h8 : m ≤ 8) (h0 : 0 ≤ s) (hge : (2 : Int) ^ m ≤ s) (hmay : Plain.mayC c = true) (w : World) (hI : CfI w c lv mv) :
    Calls Try.prog 5 #[cfV c lv mv, v, .int .i64 s] w (OfP [] 2 w) := by
  have hp := LabP.pow_le h8
  have hz : ((2 ^ m : Nat) : Int) = (2 : Int) ^ m := by simp
  have h00 : ¬ s < 0 := by omega
  have hm0 : 0 ≤ (m : Int) := by omega
  clear h0
  have bA := hid (show Below w.heap.size w (w.alloc (boxC c lv mv)) from (Below.refl _ _).alloc (Nat.le_refl _) _)
  have HC := hid (CellC.start w c lv mv)
  have HI := hid (hI.grow bA.out)
  have KM := hid (fun W (I : CfI W c lv mv) => rmay_c c lv mv W I)
  have HMAY := hid hmay
  clear hI hmay
  obtain ⟨lp, lc, rfl⟩ := seg_len HI.out.sl
  obtain ⟨mp, mc, rfl⟩ := seg_len HI.out.sm
  obtain ⟨cn, ls, ct, ms, ccap⟩ := c
  dsimp only at *
  subst hm
  go_enter Try.func5, Try.ntmps5
  go_wp2_with fail
  refine (KM.out _ HI.out).mono ?_
  rintro e w1 ⟨rfl, hb⟩
  rw [HMAY.out]
  have B1 := hid (bA.out.trans (hb.mono bA.out.size))
  have C1 := hid (HC.out.below hb HC.out.lt)
  clear hb
  obtain ⟨c0, c1, c2, c3, c4⟩ := C1.out
  go_wp2
  · go_ret2
    exact ⟨none, 0, [], rfl, rfl, OutT.nil _, B1.out⟩
  · exfalso
    have h' : 0 ≤ s ∧ s < wrap64 (2 ^ m) := by assumption
    rw [wrap_pow8 m h8] at h'
    omega
set_option maxHeartbeats 8000000 in
set_option maxRecDepth 100000 in
theorem rof_ok (c : Plain.Cf) (lv mv : Value) (p : Option Addr) (n cap : Nat) (R : List RT) (s m : Nat) (hs : s < 256) (hm : c.n = m) (h8 : m ≤ 8) (hlt2 : s < 2 ^ m) (hmay : Plain.mayC c = true) (w : World) (hn : R.length = n) (hI : CfI w c lv mv) (hR : InT w p R) :
    Calls Try.prog 5 #[cfV c lv mv, .slice p n cap, .int .i64 (s : Nat)] w (OfP (viewL s (R.map (·.x))) 0 w) := by
  have hbig : n * 136 ≤ 140737488355328 := by rw [← hn]; exact hR.sz
  have hp := LabP.pow_le h8
  have hz : ((2 ^ m : Nat) : Int) = (2 : Int) ^ m := by simp
  have h00 : ¬ ((s : Nat) : Int) < 0 := by omega
  have hm0 : 0 ≤ (m : Int) := by omega
  have hlz : ¬ (2 : Int) ^ m ≤ ((s : Nat) : Int) := by rw [← hz]; omega
  have HIN := hid hR
  have HN := hid hn
  have HUP := hid (fun who => upB_all s who m h8 hlt2)
  clear hR hn hlt2
  have bA := hid (show Below w.heap.size w (w.alloc (boxC c lv mv)) from (Below.refl _ _).alloc (Nat.le_refl _) _)
  have HC := hid (CellC.start w c lv mv)
  have HI := hid (hI.grow bA.out)
  have KM := hid (fun W (I : CfI W c lv mv) => rmay_c c lv mv W I)
  have HMAY := hid hmay
  clear hI hmay
  obtain ⟨lp, lc, rfl⟩ := seg_len HI.out.sl
  obtain ⟨mp, mc, rfl⟩ := seg_len HI.out.sm
  obtain ⟨cn, ls, ct, ms, ccap⟩ := c
  dsimp only at *
  subst hm
  go_enter Try.func5, Try.ntmps5
  go_wp2_with fail
  refine (KM.out _ HI.out).mono ?_
  rintro e w1 ⟨rfl, hb⟩
  rw [HMAY.out]
  have B1 := hid (bA.out.trans (hb.mono bA.out.size))
  have C1 := hid (HC.out.below hb HC.out.lt)
  clear hb
  have IN1 := hid (HIN.out.grow B1.out)
  obtain ⟨cc0, cc1, cc2, cc3, cc4⟩ := C1.out
  have hHlt : w.heap.size < w1.heap.size := C1.out.lt
  go_wp2
  clear cc0 cc1 cc2 cc3 cc4 hlz hz hp
  have hbz : n ≤ 9223372036854775807 := by omega
  go_loopg [8, 10, 11, 12, 13, 28] n (fun gg s8 _ _ _ _ s28 wx => ∃ k : Nat, k ≤ n ∧ n - k ≤ gg ∧ s28 = .int .i64 k ∧ Aside (∃ D : List RT, D.length = k ∧ D.map (·.x) = (viewL s (R.map (·.x))).take k ∧ AnI w1 wx s8 D))
  case atStart => exact ⟨0, Nat.zero_le _, by omega, rfl, (show Aside _ from ⟨[], rfl, by simp, AnI.start w1⟩)⟩
  case round =>
    obtain ⟨k, hkk, hg, rfl, A⟩ := hrel

    by_cases hlt : k < n
    · have hltz : (k : Int) < (n : Int) := by omega
      have hll : k < R.length := by rw [HN.out]; exact hlt
      obtain ⟨D, hDk, hDm, hD⟩ := A.out
      have HD := hid hD
      have HDM := hid hDm
      have HDK := hid hDk
      clear hD hDm hDk A
      have INR := hid (IN1.out.grow HD.out.be)
      obtain ⟨b, of, rfl, hb, hc⟩ := holdsT INR.out.hd (by omega)
      have hc := hc k hll
      have VT := hid (viewL_take s (R.map (·.x)) k (by simpa using hll))
      have TO := hid (INR.out.td (R.getD k default) (by rw [List.getD_eq_getElem?_getD, List.getElem?_eq_getElem hll]; exact List.getElem_mem _))
      have ex : (R.map (·.x)).getD k default = (R.getD k default).x := by
        rw [List.getD_eq_getElem?_getD, List.getElem?_map, List.getD_eq_getElem?_getD, List.getElem?_eq_getElem hll]; rfl
      rw [ex] at VT
      clear ex
      generalize R.getD k default = r at hc VT TO
      obtain ⟨⟨code, who, ⟨kc, ki, kf, kh, ku⟩, val, sent, frame, report⟩, ps, cs, pf, cf, pr, cr⟩ := r
      have c0 : wr.cell? ⟨b, of + k * 11, none⟩ = some (.int .i64 code) := by have := hc 0 (by decide); rwa [Nat.add_zero] at this
      have c1 : wr.cell? ⟨b, of + k * 11 + 1, none⟩ = some (.int .i64 who) := by have := hc 1 (by decide); rwa [← Nat.add_assoc] at this
      have c2 : wr.cell? ⟨b, of + k * 11 + 2, none⟩ = some (.int .i64 kc) := by have := hc 2 (by decide); rwa [← Nat.add_assoc] at this
      have c3 : wr.cell? ⟨b, of + k * 11 + 3, none⟩ = some (.int .i64 ki) := by have := hc 3 (by decide); rwa [← Nat.add_assoc] at this
      have c4 : wr.cell? ⟨b, of + k * 11 + 4, none⟩ = some (.int .i64 kf) := by have := hc 4 (by decide); rwa [← Nat.add_assoc] at this
      have c5 : wr.cell? ⟨b, of + k * 11 + 5, none⟩ = some (.int .i64 kh) := by have := hc 5 (by decide); rwa [← Nat.add_assoc] at this
      have c6 : wr.cell? ⟨b, of + k * 11 + 6, none⟩ = some (.int .i64 ku) := by have := hc 6 (by decide); rwa [← Nat.add_assoc] at this
      have c7 : wr.cell? ⟨b, of + k * 11 + 7, none⟩ = some (.int .i64 val) := by have := hc 7 (by decide); rwa [← Nat.add_assoc] at this
      have c8 : wr.cell? ⟨b, of + k * 11 + 8, none⟩ = some (.slice ps sent.length cs) := by have := hc 8 (by decide); rwa [← Nat.add_assoc] at this
      have c9 : wr.cell? ⟨b, of + k * 11 + 9, none⟩ = some (.slice pf frame.length cf) := by have := hc 9 (by decide); rwa [← Nat.add_assoc] at this
      have c10 : wr.cell? ⟨b, of + k * 11 + 10, none⟩ = some (.slice pr report.length cr) := by have := hc 10 (by decide); rwa [← Nat.add_assoc] at this
      clear hc
      obtain ⟨WA, hWA⟩ : ∃ WA, WA = wr.alloc (.cells #[.int .i64 code, .int .i64 who, .int .i64 kc, .int .i64 ki, .int .i64 kf, .int .i64 kh, .int .i64 ku, .int .i64 val, .slice ps sent.length cs, .slice pf frame.length cf, .slice pr report.length cr] 41) := ⟨_, rfl⟩
      go_upto_region 9 with fail
      rw [← hWA]
      have bW := hid (show Below wr.heap.size wr WA by rw [hWA]; exact (Below.refl _ _).alloc (Nat.le_refl _) _)
      have TA := hid (show WA.rowIs wr.heap.size 41 11 (RT.mk ⟨code, who, ⟨kc, ki, kf, kh, ku⟩, val, sent, frame, report⟩ ps cs pf cf pr cr).cell by rw [hWA]; exact rowT_new wr (RT.mk ⟨code, who, ⟨kc, ki, kf, kh, ku⟩, val, sent, frame, report⟩ ps cs pf cf pr cr).cell)
      have hsA := hid (show WA.heap.size = wr.heap.size + 1 by rw [hWA]; simp)
      clear hWA c0 c1 c2 c3 c4 c5 c6 c7 c8 c9 c10
      have TOA := hid (TO.out.grow bW.out)
      have HDA := hid (HD.out.grow bW.out)
      obtain ⟨HT, hHT⟩ : ∃ HT, HT = wr.heap.size := ⟨_, rfl⟩
      rw [← hHT] at TA hsA ⊢
      have HHT := hid hHT
      clear hHT
      have cn0 : WA.cell? ⟨w.heap.size, 0, none⟩ = some (.int .i64 (m : Int)) := (C1.out.below HDA.out.be C1.out.lt).1
      have tw : WA.cell? ⟨HT, 1, none⟩ = some (.int .i64 who) := TA.out.cell (i := 1) (by decide)
      have HDone := hid (upB_zero s who)
      go_wp2_with fail
      go_loopg [11, 12] m (fun gg s11 s12 wx => ∃ j : Nat, j ≤ m ∧ m - j ≤ gg ∧ s12 = .int .i64 j ∧ s11 = .bool (upB s who j) ∧ wx = WA)
      case atStart => exact ⟨0, Nat.zero_le _, by omega, rfl, by rw [HDone.out], rfl⟩
      case round =>
        obtain ⟨j, hj, hgj, rfl, rfl, hwx⟩ := hrel
        have hy := hwx.symm
        clear hwx
        subst hy
        by_cases hjm : j < m
        · have hjz : (j : Int) < (m : Int) := by omega
          cases hup : upB s who j with
          | true =>
            have HU := hid hup
            clear hup
            go_wp2
            go_roundg (m - (j + 1))
            case measure => omega
            case rel => exact ⟨j + 1, by omega, by omega, by go_num, by rw [upB_ne s who j (upB_not s who j HU.out), HU.out], rfl⟩
          | false =>
            have HU := hid hup
            clear hup
            by_cases hw : who = (j : Int)
            · have hb : (who == (j : Int)) = true := by rw [hw]; exact beq_self_eq_true _
              have HW := hid hw
              have KR := rreadsV s j hs (by omega) WA
              clear hw
              generalize hrr : (s / 2 ^ j % 2 == 1) = rr at KR
              have HRR := hid hrr
              clear hrr
              go_wp2_with fail
              refine KR.mono ?_
              rintro e w4 ⟨rfl, hx⟩
              have hy := hx.symm
              clear hx KR
              subst hy
              go_wp2
              go_roundg (m - (j + 1))
              case measure => omega
              case rel => exact ⟨j + 1, by omega, by omega, by go_num, by rw [upB_eq s who j HW.out, HRR.out], rfl⟩
            · have hb : (who == (j : Int)) = false := by rw [beq_eq_false_iff_ne]; exact hw
              have HW := hid hw
              clear hw
              go_wp2
              go_roundg (m - (j + 1))
              case measure => omega
              case rel => exact ⟨j + 1, by omega, by omega, by go_num, by rw [upB_ne s who j HW.out, HU.out], rfl⟩
        · have hjz : ¬ (j : Int) < (m : Int) := by omega
          have ej : j = m := by omega
          have HRD := hid (HUP.out who)
          have HEJ := hid ej
          clear ej HDone
          generalize hrd : Plain.rdB (s : Nat) who = rd at VT HRD
          have hup : upB s who j = rd := by rw [HEJ.out]; exact HRD.out
          rw [hup]
          clear hup hrd


          have t0 : WA.cell? ⟨HT, 0, none⟩ = some (.int .i64 code) := TA.out.cell (i := 0) (by decide)
          have t1 : WA.cell? ⟨HT, 1, none⟩ = some (.int .i64 who) := TA.out.cell (i := 1) (by decide)
          have t2 : WA.cell? ⟨HT, 2, none⟩ = some (.int .i64 kc) := TA.out.cell (i := 2) (by decide)
          have t3 : WA.cell? ⟨HT, 3, none⟩ = some (.int .i64 ki) := TA.out.cell (i := 3) (by decide)
          have t4 : WA.cell? ⟨HT, 4, none⟩ = some (.int .i64 kf) := TA.out.cell (i := 4) (by decide)
          have t5 : WA.cell? ⟨HT, 5, none⟩ = some (.int .i64 kh) := TA.out.cell (i := 5) (by decide)
          have t6 : WA.cell? ⟨HT, 6, none⟩ = some (.int .i64 ku) := TA.out.cell (i := 6) (by decide)
          have t7 : WA.cell? ⟨HT, 7, none⟩ = some (.int .i64 val) := TA.out.cell (i := 7) (by decide)
          have t8 : WA.cell? ⟨HT, 8, none⟩ = some (.slice ps sent.length cs) := TA.out.cell (i := 8) (by decide)
          have t9 : WA.cell? ⟨HT, 9, none⟩ = some (.slice pf frame.length cf) := TA.out.cell (i := 9) (by decide)
          have t10 : WA.cell? ⟨HT, 10, none⟩ = some (.slice pr report.length cr) := TA.out.cell (i := 10) (by decide)
          obtain ⟨WX, hWX⟩ : ∃ WX, WX = WA.alloc (.cells #[.int .i64 code, .int .i64 who, .int .i64 kc, .int .i64 ki, .int .i64 kf, .int .i64 kh, .int .i64 ku, .int .i64 val, .slice ps sent.length cs, .slice pf frame.length cf, .slice pr report.length cr] 41) := ⟨_, rfl⟩
          go_upto_region 15 with fail
          rw [← hWX]
          have bX := hid (show Below WA.heap.size WA WX by rw [hWX]; exact (Below.refl _ _).alloc (Nat.le_refl _) _)
          have XA := hid (show WX.rowIs WA.heap.size 41 11 (RT.mk ⟨code, who, ⟨kc, ki, kf, kh, ku⟩, val, sent, frame, report⟩ ps cs pf cf pr cr).cell by rw [hWX]; exact rowT_new WA (RT.mk ⟨code, who, ⟨kc, ki, kf, kh, ku⟩, val, sent, frame, report⟩ ps cs pf cf pr cr).cell)
          have hsX := hid (show WX.heap.size = WA.heap.size + 1 by rw [hWX]; simp)
          clear hWX t0 t1 t2 t3 t4 t5 t6 t7 t8 t9 t10
          obtain ⟨HX, hHX⟩ : ∃ HX, HX = WA.heap.size := ⟨_, rfl⟩
          rw [← hHX] at XA hsX ⊢
          have XB := hid (show XbI w1 WA WX u8 D HT HX (RT.mk ⟨code, who, ⟨kc, ki, kf, kh, ku⟩, val, sent, frame, report⟩ ps cs pf cf pr cr).cell (RT.mk ⟨code, who, ⟨kc, ki, kf, kh, ku⟩, val, sent, frame, report⟩ ps cs pf cf pr cr).cell from ⟨HDA.out.grow bX.out, TA.out.of_block (bX.out.block _ TA.out.lt), XA.out, (fun e => by have := (AnI.own_lt HDA.out.own e).1; omega), by have := hsA.out; omega, by have := HDA.out.be.size; omega, by omega⟩)
          have TOX := hid (TOA.out.grow bX.out)
          have BX := hid (Below.refl WA.heap.size WX)
          clear hHX XA


          have toa := TOA.out.grow (bX.out.trans BX.out)
          obtain ⟨qs, ds, Va, hra, hsa, hba⟩ := appV toa.s toa.sn toa.sl
          dsimp only at hra hsa
          have RUN := hid hra
          have XG := hid (XB.out.grow hba)
          have tc : WX.cell? ⟨HT, 8, none⟩ = some (.slice ps sent.length cs) := XB.out.tb.cell (i := 8) (by decide)
          have xc := XG.out.xr.cell (i := 8) (by decide)
          have xf := XG.out.xr.frozen 8
          have BX2 := hid (BX.out.trans (hba.mono (bX.out.trans BX.out).size))
          obtain ⟨Ua, hUa⟩ : ∃ U, U = Va.setCell ⟨HX, 8, none⟩ (.slice qs sent.length ds) := ⟨_, rfl⟩
          have OS := one_set XG.out.xr 8 (.slice qs sent.length ds)
          rw [← hUa] at OS
          have KK := hid ((Kt.of_below hba).trans OS.1)
          have Sa := hid (hsa.keep OS.1)
          have XB2 := hid (show XbI w1 WA Ua u8 D HT HX _ _ by rw [hUa]; exact XG.out.set 8 (.slice qs sent.length ds))
          have BX3 := hid (BX2.out.trans (OS.2.2.2 _ XG.out.lx))
          have HU := hid hUa
          clear hra hsa hba toa BX OS hUa
          go_upto_region 16 with (first | (at_builtin; refine wpList_app _ _ 38 RUN.out (by rfl) (by rfl) (by rfl) (by rfl) (by rfl) ?_) | fail)
          rw [← HU.out]
          have BX := BX3
          clear XG RUN tc xc xf XB BX2 BX3 HU KK
          have XB := XB2
          clear XB2

          have tob := TOA.out.grow (bX.out.trans BX.out)
          obtain ⟨qr, dr, Vb, hrb, hsb, hbb⟩ := appI tob.r tob.rn tob.rl
          dsimp only at hrb hsb
          have RUN := hid hrb
          have XG := hid (XB.out.grow hbb)
          have tc : Ua.cell? ⟨HT, 10, none⟩ = some (.slice pr report.length cr) := XB.out.tb.cell (i := 10) (by decide)
          have xc := XG.out.xr.cell (i := 10) (by decide)
          have xf := XG.out.xr.frozen 10
          have BX2 := hid (BX.out.trans (hbb.mono (bX.out.trans BX.out).size))
          obtain ⟨Ub, hUb⟩ : ∃ U, U = Vb.setCell ⟨HX, 10, none⟩ (.slice qr report.length dr) := ⟨_, rfl⟩
          have OS := one_set XG.out.xr 10 (.slice qr report.length dr)
          rw [← hUb] at OS
          have KK := hid ((Kt.of_below hbb).trans OS.1)
          have Sb := hid (hsb.keep OS.1)
          have Sa2 := hid (Sa.out.keep KK.out)
          clear Sa
          have Sa := Sa2
          clear Sa2
          have XB2 := hid (show XbI w1 WA Ub u8 D HT HX _ _ by rw [hUb]; exact XG.out.set 10 (.slice qr report.length dr))
          have BX3 := hid (BX2.out.trans (OS.2.2.2 _ XG.out.lx))
          have HU := hid hUb
          clear hrb hsb hbb tob BX OS hUb
          go_upto_region 17 with (first | (at_builtin; refine wpList_app _ _ 22 RUN.out (by rfl) (by rfl) (by rfl) (by rfl) (by rfl) ?_) | fail)
          rw [← HU.out]
          have BX := BX3
          clear XG RUN tc xc xf XB BX2 BX3 HU KK
          have XB := XB2
          clear XB2

          have toc := TOA.out.grow (bX.out.trans BX.out)
          obtain ⟨qf, df, Vc, hrc, hsc, hbc⟩ := appB toc.f toc.fn toc.fl
          dsimp only at hrc hsc
          have RUN := hid hrc
          have XG := hid (XB.out.grow hbc)
          have tc : Ub.cell? ⟨HT, 9, none⟩ = some (.slice pf frame.length cf) := XB.out.tb.cell (i := 9) (by decide)
          have xc := XG.out.xr.cell (i := 9) (by decide)
          have xf := XG.out.xr.frozen 9
          have BX2 := hid (BX.out.trans (hbc.mono (bX.out.trans BX.out).size))
          obtain ⟨Uc, hUc⟩ : ∃ U, U = Vc.setCell ⟨HX, 9, none⟩ (.slice qf frame.length df) := ⟨_, rfl⟩
          have OS := one_set XG.out.xr 9 (.slice qf frame.length df)
          rw [← hUc] at OS
          have KK := hid ((Kt.of_below hbc).trans OS.1)
          have Sc := hid (hsc.keep OS.1)
          have Sa2 := hid (Sa.out.keep KK.out)
          clear Sa
          have Sa := Sa2
          clear Sa2
          have Sb2 := hid (Sb.out.keep KK.out)
          clear Sb
          have Sb := Sb2
          clear Sb2
          have XB2 := hid (show XbI w1 WA Uc u8 D HT HX _ _ by rw [hUc]; exact XG.out.set 9 (.slice qf frame.length df))
          have BX3 := hid (BX2.out.trans (OS.2.2.2 _ XG.out.lx))
          have HU := hid hUc
          clear hrc hsc hbc toc BX OS hUc
          go_upto_region 18 with (first | (at_builtin; refine wpList_app _ _ 39 RUN.out (by rfl) (by rfl) (by rfl) (by rfl) (by rfl) ?_) | fail)
          rw [← HU.out]
          have BX := BX3
          clear XG RUN tc xc xf XB BX2 BX3 HU KK
          have XB := XB2
          clear XB2
          cases rd with
          | true =>

            have XE := hid (XB.out)
            have x0 : Uc.cell? ⟨HX, 0, none⟩ = some (.int .i64 code) := XE.out.xr.cell (i := 0) (by decide)
            have x1 : Uc.cell? ⟨HX, 1, none⟩ = some (.int .i64 who) := XE.out.xr.cell (i := 1) (by decide)
            have x2 : Uc.cell? ⟨HX, 2, none⟩ = some (.int .i64 kc) := XE.out.xr.cell (i := 2) (by decide)
            have x3 : Uc.cell? ⟨HX, 3, none⟩ = some (.int .i64 ki) := XE.out.xr.cell (i := 3) (by decide)
            have x4 : Uc.cell? ⟨HX, 4, none⟩ = some (.int .i64 kf) := XE.out.xr.cell (i := 4) (by decide)
            have x5 : Uc.cell? ⟨HX, 5, none⟩ = some (.int .i64 kh) := XE.out.xr.cell (i := 5) (by decide)
            have x6 : Uc.cell? ⟨HX, 6, none⟩ = some (.int .i64 ku) := XE.out.xr.cell (i := 6) (by decide)
            have x7 : Uc.cell? ⟨HX, 7, none⟩ = some (.int .i64 val) := XE.out.xr.cell (i := 7) (by decide)
            have x8 : Uc.cell? ⟨HX, 8, none⟩ = some (.slice qs sent.length ds) := XE.out.xr.cell (i := 8) (by decide)
            have x9 : Uc.cell? ⟨HX, 9, none⟩ = some (.slice qf frame.length df) := XE.out.xr.cell (i := 9) (by decide)
            have x10 : Uc.cell? ⟨HX, 10, none⟩ = some (.slice qr report.length dr) := XE.out.xr.cell (i := 10) (by decide)
            obtain ⟨WY, hWY⟩ : ∃ WY, WY = Uc.alloc (.cells #[.int .i64 code, .int .i64 who, .int .i64 kc, .int .i64 ki, .int .i64 kf, .int .i64 kh, .int .i64 ku, .int .i64 val, .slice qs sent.length ds, .slice qf frame.length df, .slice qr report.length dr] 41) := ⟨_, rfl⟩
            have bY : Below Uc.heap.size Uc WY := by rw [hWY]; exact (Below.refl _ _).alloc (Nat.le_refl _) _
            have hY : encT.Holds WY (some ⟨Uc.heap.size, 0, none⟩) [(RT.mk ⟨code, who, ⟨kc, ki, kf, kh, ku⟩, val, sent, frame, report⟩ qs ds qf df qr dr)] := by rw [hWY]; exact encT.one_holds Uc (RT.mk ⟨code, who, ⟨kc, ki, kf, kh, ku⟩, val, sent, frame, report⟩ qs ds qf df qr dr) _
            have AY := XE.out.an.grow bY
            obtain ⟨v9, W9, hr9, A9⟩ := AY.app (c := 1) (RT.mk ⟨code, who, ⟨kc, ki, kf, kh, ku⟩, val, sent, frame, report⟩ qs ds qf df qr dr) ((TdI.mk Sa.out Sc.out Sb.out : TdI Uc (RT.mk ⟨code, who, ⟨kc, ki, kf, kh, ku⟩, val, sent, frame, report⟩ qs ds qf df qr dr)).keep (Kt.of_below bY)) (by rw [HDK.out]; omega) hY (by simp)
            rw [hWY] at hr9
            have RUN := hid hr9
            have A10 := hid A9
            clear hr9 A9 AY hY bY hWY
            go_wp2_with (first | (at_builtin; refine wpList_app _ _ 25 RUN.out (by rfl) (by rfl) (by rfl) (by rfl) (by rfl) ?_) | fail)
            clear x0 x1 x2 x3 x4 x5 x6 x7 x8 x9 x10 RUN
            go_roundg (n - (k + 1))
            case measure => omega
            case rel =>
              refine ⟨k + 1, by omega, by omega, by go_num, (show Aside _ from ⟨_, ?_, ?_, A10.out⟩)⟩
              · rw [List.length_append, HDK.out]; rfl
              · rw [List.map_append, HDM.out, VT.out]; rfl
          | false =>

            obtain ⟨UZ, hUZ⟩ : ∃ UZ, UZ = ((((((((Uc.setCell ⟨HX, 0, none⟩ (.int .i64 0)).setCell ⟨HX, 2, none⟩ (.int .i64 0)).setCell ⟨HX, 3, none⟩ (.int .i64 0)).setCell ⟨HX, 4, none⟩ (.int .i64 0)).setCell ⟨HX, 5, none⟩ (.int .i64 0)).setCell ⟨HX, 6, none⟩ (.int .i64 0)).setCell ⟨HX, 7, none⟩ (.int .i64 0)).setCell ⟨HX, 9, none⟩ (.slice none 0 0)) := ⟨_, rfl⟩
            have x0 : Uc.cell? ⟨HX, 0, none⟩ = some (.int .i64 code) := XB.out.xr.cell (i := 0) (by decide)
            have x1 : Uc.cell? ⟨HX, 1, none⟩ = some (.int .i64 who) := XB.out.xr.cell (i := 1) (by decide)
            have x2 : Uc.cell? ⟨HX, 2, none⟩ = some (.int .i64 kc) := XB.out.xr.cell (i := 2) (by decide)
            have x3 : Uc.cell? ⟨HX, 3, none⟩ = some (.int .i64 ki) := XB.out.xr.cell (i := 3) (by decide)
            have x4 : Uc.cell? ⟨HX, 4, none⟩ = some (.int .i64 kf) := XB.out.xr.cell (i := 4) (by decide)
            have x5 : Uc.cell? ⟨HX, 5, none⟩ = some (.int .i64 kh) := XB.out.xr.cell (i := 5) (by decide)
            have x6 : Uc.cell? ⟨HX, 6, none⟩ = some (.int .i64 ku) := XB.out.xr.cell (i := 6) (by decide)
            have x7 : Uc.cell? ⟨HX, 7, none⟩ = some (.int .i64 val) := XB.out.xr.cell (i := 7) (by decide)
            have x8 : Uc.cell? ⟨HX, 8, none⟩ = some (.slice qs sent.length ds) := XB.out.xr.cell (i := 8) (by decide)
            have x9 : Uc.cell? ⟨HX, 9, none⟩ = some (.slice qf frame.length df) := XB.out.xr.cell (i := 9) (by decide)
            have x10 : Uc.cell? ⟨HX, 10, none⟩ = some (.slice qr report.length dr) := XB.out.xr.cell (i := 10) (by decide)
            have xf0 := XB.out.xr.frozen 0
            have xf2 := XB.out.xr.frozen 2
            have xf3 := XB.out.xr.frozen 3
            have xf4 := XB.out.xr.frozen 4
            have xf5 := XB.out.xr.frozen 5
            have xf6 := XB.out.xr.frozen 6
            have xf7 := XB.out.xr.frozen 7
            have xf9 := XB.out.xr.frozen 9
            have SETS := ((((((((XB.out.set 0 (.int .i64 0)).set 2 (.int .i64 0)).set 3 (.int .i64 0)).set 4 (.int .i64 0)).set 5 (.int .i64 0)).set 6 (.int .i64 0)).set 7 (.int .i64 0)).set 9 (.slice none 0 0))
            rw [← hUZ] at SETS
            have KZ := zeros_kt XB.out.xr
            rw [← hUZ] at KZ
            have XZ := hid SETS
            have KZ2 := hid KZ
            clear SETS KZ
            go_upto_region 23 with fail
            rw [← hUZ]
            clear hUZ x0 x1 x2 x3 x4 x5 x6 x7 x8 x9 x10 xf0 xf2 xf3 xf4 xf5 xf6 xf7 xf9


            have XE := hid (XZ.out)
            have x0 : UZ.cell? ⟨HX, 0, none⟩ = some (.int .i64 0) := XE.out.xr.cell (i := 0) (by decide)
            have x1 : UZ.cell? ⟨HX, 1, none⟩ = some (.int .i64 who) := XE.out.xr.cell (i := 1) (by decide)
            have x2 : UZ.cell? ⟨HX, 2, none⟩ = some (.int .i64 0) := XE.out.xr.cell (i := 2) (by decide)
            have x3 : UZ.cell? ⟨HX, 3, none⟩ = some (.int .i64 0) := XE.out.xr.cell (i := 3) (by decide)
            have x4 : UZ.cell? ⟨HX, 4, none⟩ = some (.int .i64 0) := XE.out.xr.cell (i := 4) (by decide)
            have x5 : UZ.cell? ⟨HX, 5, none⟩ = some (.int .i64 0) := XE.out.xr.cell (i := 5) (by decide)
            have x6 : UZ.cell? ⟨HX, 6, none⟩ = some (.int .i64 0) := XE.out.xr.cell (i := 6) (by decide)
            have x7 : UZ.cell? ⟨HX, 7, none⟩ = some (.int .i64 0) := XE.out.xr.cell (i := 7) (by decide)
            have x8 : UZ.cell? ⟨HX, 8, none⟩ = some (.slice qs sent.length ds) := XE.out.xr.cell (i := 8) (by decide)
            have x9 : UZ.cell? ⟨HX, 9, none⟩ = some (.slice none 0 0) := XE.out.xr.cell (i := 9) (by decide)
            have x10 : UZ.cell? ⟨HX, 10, none⟩ = some (.slice qr report.length dr) := XE.out.xr.cell (i := 10) (by decide)
            obtain ⟨WY, hWY⟩ : ∃ WY, WY = UZ.alloc (.cells #[.int .i64 0, .int .i64 who, .int .i64 0, .int .i64 0, .int .i64 0, .int .i64 0, .int .i64 0, .int .i64 0, .slice qs sent.length ds, .slice none 0 0, .slice qr report.length dr] 41) := ⟨_, rfl⟩
            have bY : Below UZ.heap.size UZ WY := by rw [hWY]; exact (Below.refl _ _).alloc (Nat.le_refl _) _
            have hY : encT.Holds WY (some ⟨UZ.heap.size, 0, none⟩) [(RT.mk ⟨0, who, ⟨0, 0, 0, 0, 0⟩, 0, sent, [], report⟩ qs ds none 0 qr dr)] := by rw [hWY]; exact encT.one_holds UZ (RT.mk ⟨0, who, ⟨0, 0, 0, 0, 0⟩, 0, sent, [], report⟩ qs ds none 0 qr dr) _
            have AY := XE.out.an.grow bY
            obtain ⟨v9, W9, hr9, A9⟩ := AY.app (c := 1) (RT.mk ⟨0, who, ⟨0, 0, 0, 0, 0⟩, 0, sent, [], report⟩ qs ds none 0 qr dr) ((TdI.mk (Sa.out.keep KZ2.out) (Sl.none _ _) (Sb.out.keep KZ2.out) : TdI UZ (RT.mk ⟨0, who, ⟨0, 0, 0, 0, 0⟩, 0, sent, [], report⟩ qs ds none 0 qr dr)).keep (Kt.of_below bY)) (by rw [HDK.out]; omega) hY (by simp)
            rw [hWY] at hr9
            have RUN := hid hr9
            have A10 := hid A9
            clear hr9 A9 AY hY bY hWY
            go_wp2_with (first | (at_builtin; refine wpList_app _ _ 25 RUN.out (by rfl) (by rfl) (by rfl) (by rfl) (by rfl) ?_) | fail)
            clear x0 x1 x2 x3 x4 x5 x6 x7 x8 x9 x10 RUN
            go_roundg (n - (k + 1))
            case measure => omega
            case rel =>
              refine ⟨k + 1, by omega, by omega, by go_num, (show Aside _ from ⟨_, ?_, ?_, A10.out⟩)⟩
              · rw [List.length_append, HDK.out]; rfl
              · rw [List.map_append, HDM.out, VT.out]; rfl
    · have hltz : ¬ (k : Int) < (n : Int) := by omega
      have ek : k = n := by omega
      obtain ⟨D, hDk, hDm, hD⟩ := A.out
      have HD := hid hD
      have HDM := hid hDm
      have HDK := hid hDk
      have EK := hid ek
      have HF := hid (encT.owns hD.own rfl)
      clear hD hDm hDk A ek
      go_wp2
      go_ret2
      obtain ⟨q, cc, rfl, hh, _, _⟩ := HF.out
      refine ⟨q, cc, D, rfl, ?_, ⟨hh, HD.out.td⟩, B1.out.trans (HD.out.be.mono B1.out.size)⟩
      rw [HDM.out, List.take_of_length_le]
      rw [viewL, List.length_map, List.length_map, HN.out, EK.out]
      exact Nat.le_refl _
theorem rof_any (c : Plain.Cf) (lv mv : Value) (p : Option Addr) (cap : Nat) (R : List RT) (s : Int) (w : World) (hI : CfI w c lv mv) (hR : InT w p R) :
    Calls Try.prog 5 #[cfV c lv mv, .slice p R.length cap, .int .i64 s] w (OfP (viewV c s (R.map (·.x))) (viewE c s) w) := by
  unfold viewV viewE
  cases hm : Plain.mayC c with
  | false => exact rof_form c lv mv _ s hm w hI
  | true =>
    obtain ⟨⟨n1, n8⟩, _⟩ := Plain.may_all hm
    obtain ⟨m, hmm⟩ := Int.eq_ofNat_of_zero_le (show 0 ≤ c.n by omega)
    have hz : ((2 ^ m : Nat) : Int) = (2 : Int) ^ m := by simp
    have hp := LabP.pow_le (k := m) (by omega)
    by_cases h0 : s < 0
    · have e : Plain.labB c.n s = false := by
        unfold Plain.labB
        rw [Bool.and_eq_false_iff, decide_eq_false_iff_not]
        exact .inl (by omega)
      rw [e]
      exact rof_low c lv mv _ s h0 hm w hI
    · obtain ⟨x, rfl⟩ := Int.eq_ofNat_of_zero_le (show 0 ≤ s by omega)
      by_cases hlt : x < 2 ^ m
      · have e : Plain.labB c.n (x : Int) = true := by
          unfold Plain.labB
          rw [hmm, Int.toNat_natCast, ← hz, Bool.and_eq_true, decide_eq_true_iff, decide_eq_true_iff]
          omega
        rw [e]
        exact rof_ok c lv mv p R.length cap R x m (by omega) hmm (by omega) hlt hm w rfl hI hR
      · have e : Plain.labB c.n (x : Int) = false := by
          unfold Plain.labB
          rw [hmm, Int.toNat_natCast, ← hz, Bool.and_eq_false_iff, decide_eq_false_iff_not, decide_eq_false_iff_not]
          omega
        rw [e]
        exact rof_more c lv mv _ x m hmm (by omega) (by omega) (by rw [← hz]; omega) hm w hI
end Go.Proofs.Ytlmiomfbpeondan.Vi
