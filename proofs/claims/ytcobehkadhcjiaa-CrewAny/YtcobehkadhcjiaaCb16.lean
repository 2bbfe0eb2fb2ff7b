/-
  Goroutines among others: part 16 of what the law's own text rests on.
-/
import Derived.Test.YtcobehkadhcjiaaCb14
import Derived.Test.YtcobehkadhcjiaaCb15
/-
  Entries that lie in a row of entries.
-/
namespace Go.Proofs.Ytcobehkadhcjiaa
open Go.RowKit

/-- What a slice holds lies in a block of entries. -/
def TyE (w : World) (v : Value) : Prop := ∀ b o n c, v = .slice (some ⟨b, o, none⟩) n c → 0 < n → ∃ cs, w.heap[b]? = some (.cells cs 41 (0, 0))
theorem TyE.nil (w : World) (p : Option Addr) (c : Nat) : TyE w (.slice p 0 c) := fun b o n c' e h => by
  injection e with _ e2 _
  omega
theorem TyE.below {w w' : World} {v : Value} (h : TyE w v) (g : Below w.heap.size w w') : TyE w' v := fun b o n c e h0 => by
  obtain ⟨cs, hb⟩ := h b o n c e h0
  exact ⟨cs, (g.block b (Array.getElem?_eq_some_iff.1 hb).1).trans hb⟩
theorem TyE.keep {w w' : World} {v : Value} (h : TyE w v) (g : ∀ (b : Nat) (cs : Array Value), w.heap[b]? = some (Obj.cells cs 41 (0, 0)) → w'.heap[b]? = w.heap[b]?) : TyE w' v := fun b o n c e h0 => by
  obtain ⟨cs, hb⟩ := h b o n c e h0
  exact ⟨cs, (g b cs hb).trans hb⟩
/-- A row of something else turns. -/
theorem TyE.row {w : World} {v : Value} (h : TyE w v) {g T m : Nat} {f : Nat → Value} (r : w.rowIs g T m f) (hT : T ≠ 41) (i : Nat) (x : Value) : TyE (w.setCell ⟨g, i, none⟩ x) v :=
  h.keep fun b cs hb => Below.heap_setCell w ⟨g, i, none⟩ x b (fun e => by
    have e' : b = g := e
    subst e'
    obtain ⟨c, h1, _⟩ := r
    rw [h1] at hb
    simp at hb
    exact hT hb.2)
theorem OwnN.ty {w : World} {B : Nat} {v : Value} {l : List Plain.En} (h : OwnN w B 41 v l) : TyE w v := fun b o n c e h0 => by
  have h2 : w.ownsRow B 41 5 v l.length (evals l) := h
  rcases h2.2 with ⟨rfl, hz⟩ | ⟨g, cap, cur, rfl, _, hg, _⟩
  · injection e with e1 _ _
    cases e1
  · injection e with e1 _ _
    have e3 := congrArg Addr.block (Option.some.inj e1)
    have e4 : g = b := e3
    rw [← e4]
    exact ⟨cur, hg⟩
/-- Where it lies: in memory that there is, in a block of entries. -/
def LiesT (w : World) (v : Value) : Prop := Lies w.heap.size v ∧ TyE w v
end Go.Proofs.Ytcobehkadhcjiaa

/-
  A contract of reg.Merge.
-/
namespace Go.Proofs.Ytcobehkadhcjiaa
open Go.RowKit Go.Sort

theorem box_at (w : World) (e : Plain.En) : CellN (w.alloc (boxE e)) w.heap.size 0 e := ⟨by simp, by simp, by simp, by simp, by simp⟩

set_option maxHeartbeats 8000000 in
set_option maxRecDepth 100000 in
theorem merge_walk (va : Value) (a b : List Plain.En) (bb off c : Nat) (ha : Plain.mayL a = true) (hb : Plain.mayL b = true) (h0 : 0 < b.length) (w : World) (sa : SegN w va a) (ya : Lies w.heap.size va) (hlt : bb < w.heap.size) (hc : CellsN w bb off b) (hcc : b.length ≤ c) :
    Calls Try.prog 34 #[va, .slice (some ⟨bb, off, none⟩) b.length c] w fun e w' =>
      ∃ r, e = .returned (.tuple #[r, .int .i64 (Plain.mergeE a b : Nat)]) ∧ SegN w' r (Plain.mergeR a b) ∧ LiesT w' r ∧ Below w.heap.size w w' := by
  obtain ⟨a8, _, asrt⟩ := (Plain.may_iff a).1 ha
  have b8 : b.length ≤ 8 := ((Plain.may_iff b).1 hb).1
  have K1 := may_any va a (by omega) w sa ya
  have sb : SegN w (.slice (some ⟨bb, off, none⟩) b.length c) b := .inr ⟨bb, off, c, rfl, hcc, hc⟩
  have K2 := fun w1 (b1 : Below w.heap.size w w1) => may_any _ b (by omega) w1 (sb.below b1 (lies_at hlt)) (lies_at (Nat.lt_of_lt_of_le hlt b1.size))
  have K3 := fun w1 (b1 : Below w.heap.size w w1) => clone_any va a (by omega) w1 (sa.below b1 ya) (ya.mono b1.size)
  have HE := hid (show Plain.mergeE a b = if (Plain.mergeL a b).length ≤ 8 then 0 else 8 by unfold Plain.mergeE; rw [if_pos ⟨ha, hb⟩])
  have HC := hid hc
  have HA := hid asrt
  rw [ha] at K1
  rw [hb] at K2
  clear sa sb hc asrt hcc ha hb ya
  go_enter Try.func34, Try.ntmps34
  go_wp2_with fail
  refine K1.mono ?_
  rintro e w1 ⟨rfl, b1⟩
  go_wp2_with fail
  refine (K2 w1 b1).mono ?_
  rintro e w2 ⟨rfl, b2⟩
  have B2 := hid (b1.trans (b2.mono b1.size))
  clear b1 b2 K1 K2
  go_wp2_with fail
  refine (K3 w2 B2.out).mono ?_
  rintro e w3 ⟨v3, rfl, o3, b3⟩
  have O3 := hid (o3.base B2.out.size)
  have B3 := hid (B2.out.trans (b3.mono B2.out.size))
  clear o3 b3 B2 K3
  go_wp2
  go_loopw [6, 23] (fun vo i wx => ∃ k : Nat, k ≤ b.length ∧ i = .int .i64 k ∧ OwnN wx w.heap.size 41 vo (Plain.mergeL a (b.take k)) ∧ Below w.heap.size w wx) (fun _ i _ => b.length - (intOf i).toNat)
  case atStart => exact ⟨0, Nat.zero_le _, rfl, O3.out, B3.out⟩
  case round =>
    obtain ⟨k, hk, rfl, hO, hbel⟩ := hrel
    by_cases hlt2 : k < b.length
    · have hlt' : (k : Int) < (b.length : Int) := by omega
      obtain ⟨c0, c1, c2, c3, c4⟩ := (HC.out k hlt2).below hbel hlt
      have HP := hid (Plain.merge_take a b k hlt2)
      have HSR := hid (Plain.merge_srt HA.out (b.take k))
      have hM16 : (Plain.mergeL a (b.take k)).length ≤ 16 := by
        have := (Plain.merge_len a (b.take k)).2
        rw [List.length_take] at this
        omega
      generalize Plain.mergeL a (b.take k) = M at hO HP HSR hM16
      generalize Plain.en b k = y at c0 c1 c2 c3 c4 HP
      have hsz := hbel.size
      have HO := hid hO
      have HB := hid hbel
      clear hO hbel
      go_wp2_with fail
      have HO1 := hid (HO.out.grow ((Below.refl _ _).alloc (Nat.le_refl _) (boxE y)))
      refine (search_any u6 y.key M HSR.out (by omega) _ HO1.out.seg.1 HO1.out.seg.2).mono ?_
      rintro e w4 ⟨rfl, b4⟩
      have HO4 := hid (HO1.out.grow b4)
      obtain ⟨x0, x1, x2, x3, x4⟩ := (box_at wr y).below b4 (by simp)
      simp only [Nat.zero_add] at x1 x2 x3 x4
      have HX := hid ((box_at wr y).below b4 (by simp))
      have hs4 : wr.heap.size < w4.heap.size := by have := b4.size; simp at this; omega
      have B4 := hid (show Below w.heap.size w w4 from (HB.out.alloc HB.out.size _).trans (b4.mono (by simp; omega)))
      clear b4 c0 c1 c2 c3 c4 HO HO1 HB
      have HPT := hid (HP.out.trans (Plain.put_at HSR.out y))
      have hle := Plain.less_le y.key M
      cases hq : Plain.hasK y.key M with
      | false =>
        rw [hq] at HPT
        simp only [Bool.false_eq_true, if_false] at HPT
        clear hq
        generalize Plain.less y.key M = t at HPT hle
        have HO5 := hid (HO4.out.grow ((Below.refl _ _).alloc (Nat.le_refl _) (boxE y)))
        have KI := insert_any u6 t w4.heap.size w.heap.size M y (w4.alloc (boxE y)) hle (by omega) (by simp; omega) HO5.out (Deep.blk_alloc_new w4 _) (fun g n cc e hgg => by
          subst e
          rcases HO4.out.2 with ⟨e, _⟩ | ⟨g', cap, cur, e, _, hb, _⟩
          · cases e
          · simp only [Value.slice.injEq, Option.some.injEq, Addr.mk.injEq, and_true] at e
            obtain ⟨rfl, _, _⟩ := e
            have := (Array.getElem?_eq_some_iff.1 hb).1
            omega)
        go_wp2_with fail
        refine KI.mono ?_
        rintro e w5 ⟨v5, rfl, o5, b5⟩
        have O5 := hid o5
        have B5 := hid (show Below w.heap.size w w5 from (B4.out.alloc B4.out.size _).trans b5)
        clear o5 b5 KI x0 x1 x2 x3 x4
        go_wp2
        go_roundw
        case rel => exact ⟨k + 1, by omega, by go_num, by rw [HPT.out]; exact O5.out, B5.out⟩
        case measure => simp [intOf]; omega
      | true =>
        have ht : Plain.less y.key M < M.length := by
          unfold Plain.hasK at hq
          exact (of_decide_eq_true hq).1
        rw [hq] at HPT
        simp only [if_true] at HPT
        clear hq hle
        generalize Plain.less y.key M = t at HPT ht
        obtain ⟨g, cc, rfl, hBg, hgw, hnc, hc63⟩ := HO4.out.at (by omega)
        have HZ := hid (HO4.out.cells t ht)
        have KA := fun W => newer_g y (Plain.en M t) W
        generalize hz : Plain.en M t = z at HPT HZ KA
        clear hz
        generalize Plain.newer y z = r at HPT KA
        have ht' : (t : Int) < (M.length : Int) := by omega
        have mixed : Try.prog.follows .mixedOrders = true := by kernel_rfl
        generalize hN : M.length = n at ht' hnc hM16 ht ⊢
        have HN := hid hN
        clear hN x0 x1 x2 x3 x4
        have p0 := fun n os => (HX.out.grown n os).c0
        have p1 := fun n os => (HX.out.grown n os).c1
        have p2 := fun n os => (HX.out.grown n os).c2
        have p3 := fun n os => (HX.out.grown n os).c3
        have p4 := fun n os => (HX.out.grown n os).c4
        have q0 := fun n os => (HZ.out.grown n os).c0
        have q1 := fun n os => (HZ.out.grown n os).c1
        have q2 := fun n os => (HZ.out.grown n os).c2
        have q3 := fun n os => (HZ.out.grown n os).c3
        have q4 := fun n os => (HZ.out.grown n os).c4
        simp only [Nat.zero_add] at p1 p2 p3 p4 q0 q1 q2 q3 q4
        go_wp2
        go_quiet_grown (first | (go_at_call 73; exact Calls.grown_of (KA _)) | fail)
        obtain ⟨w5, hw5⟩ : ∃ w5, w5 = grow (w4.drewN nq) osq := ⟨_, rfl⟩
        rw [← hw5]
        have O5 := hid (show OwnN w5 w.heap.size 41 (.slice (some ⟨g, 0, none⟩) n cc) M by rw [hw5]; have := HO4.out.grow (below_grow (Below.refl w4.heap.size w4) (Nat.le_refl _) nq osq); rwa [HN.out] at this)
        have X5 := hid (show CellN w5 wr.heap.size 0 y by rw [hw5]; exact HX.out.grown nq osq)
        have B5 := hid (show Below w.heap.size w w5 by rw [hw5]; exact below_grow B4.out B4.out.size nq osq)
        clear hw5 p0 p1 p2 p3 p4 q0 q1 q2 q3 q4 KA HX HZ B4 HO4
        cases r with
        | false =>
          simp only [Bool.false_eq_true, if_false] at HPT
          go_wp2
          go_roundw
          case rel => exact ⟨k + 1, by omega, by go_num, by rw [HPT.out]; exact O5.out, B5.out⟩
          case measure => simp [intOf]; omega
        | true =>
          simp only [if_true] at HPT
          obtain ⟨x0, x1, x2, x3, x4⟩ := X5.out
          obtain ⟨z0, z1, z2, z3, z4⟩ := O5.out.cells t (by rw [HN.out]; exact ht)
          have f0 := O5.out.frozen (by rw [HN.out]; omega) (t * 5)
          have f1 := O5.out.frozen (by rw [HN.out]; omega) (t * 5 + 1)
          have f2 := O5.out.frozen (by rw [HN.out]; omega) (t * 5 + 2)
          have f3 := O5.out.frozen (by rw [HN.out]; omega) (t * 5 + 3)
          have f4 := O5.out.frozen (by rw [HN.out]; omega) (t * 5 + 4)
          simp only [Nat.zero_add] at x1 x2 x3 x4 z0 z1 z2 z3 z4
          generalize Plain.en M t = q at z0 z1 z2 z3 z4
          go_wp2
          go_roundw
          case rel => exact ⟨k + 1, by omega, by go_num, by rw [HPT.out]; exact O5.out.set t (by rw [HN.out]; exact ht) y, below_setE B5.out hBg y⟩
          case measure => simp [intOf]; omega
    · have ek : k = b.length := by omega
      subst ek
      rw [List.take_length] at hO
      obtain ⟨p, cc, rfl⟩ := hO.form
      have HO := hid hO.seg
      have HT := hid hO.ty
      have HB := hid hbel
      clear hO hbel
      by_cases h8 : (Plain.mergeL a b).length ≤ 8
      · have HR := hid (show Plain.mergeE a b = 0 by rw [HE.out, if_pos h8])
        have HR2 := hid (show Plain.mergeR a b = Plain.mergeL a b by unfold Plain.mergeR; rw [if_pos HR.out])
        generalize Plain.mergeL a b = M at h8 HO HR2 HT
        have h8' : ¬ 8 < (M.length : Int) := by omega
        clear HE
        go_wp2
        go_ret2
        exact ⟨_, by rw [HR.out]; rfl, by rw [HR2.out]; exact HO.out.1, ⟨HO.out.2, HT.out⟩, HB.out⟩
      · have HR := hid (show Plain.mergeE a b = 8 by rw [HE.out, if_neg h8])
        have HR2 := hid (show Plain.mergeR a b = [] by unfold Plain.mergeR; rw [HR.out]; rfl)
        clear HT
        generalize Plain.mergeL a b = M at h8 HO
        have h8' : 8 < (M.length : Int) := by omega
        clear HE
        go_wp2
        go_ret2
        exact ⟨_, by rw [HR.out]; rfl, by rw [HR2.out]; exact SegN.nil _, ⟨lies_nil _ _ _, TyE.nil _ _ _⟩, HB.out⟩

set_option maxHeartbeats 2000000 in
theorem merge_nil (va : Value) (a : List Plain.En) (p : Option Addr) (c : Nat) (ha : Plain.mayL a = true) (w : World) (sa : SegN w va a) (ya : Lies w.heap.size va) :
    Calls Try.prog 34 #[va, .slice p 0 c] w fun e w' =>
      ∃ r, e = .returned (.tuple #[r, .int .i64 (0 : Nat)]) ∧ OwnN w' w.heap.size 41 r a ∧ Below w.heap.size w w' := by
  have a8 : a.length ≤ 8 := ((Plain.may_iff a).1 ha).1
  have K1 := may_any va a (by omega) w sa ya
  have K2 := fun w1 => may_any (.slice p 0 c) [] (by simp) w1 (.inl ⟨rfl, p, c, rfl⟩) (lies_nil _ _ _)
  have K3 := fun w1 (b1 : Below w.heap.size w w1) => clone_any va a (by omega) w1 (sa.below b1 ya) (ya.mono b1.size)
  rw [ha] at K1
  have e0 : Plain.mayL [] = true := rfl
  rw [e0] at K2
  clear e0 sa ya ha
  go_enter Try.func34, Try.ntmps34
  go_wp2_with fail
  refine K1.mono ?_
  rintro e w1 ⟨rfl, b1⟩
  go_wp2_with fail
  refine (K2 w1).mono ?_
  rintro e w2 ⟨rfl, b2⟩
  have B2 := hid (b1.trans (b2.mono b1.size))
  clear b1 b2 K1 K2
  go_wp2_with fail
  refine (K3 w2 B2.out).mono ?_
  rintro e w3 ⟨v3, rfl, o3, b3⟩
  have O3 := hid (o3.base B2.out.size)
  have B3 := hid (B2.out.trans (b3.mono B2.out.size))
  obtain ⟨p3, c3, rfl⟩ := o3.form
  clear o3 b3 B2 K3
  have h8' : ¬ 8 < (a.length : Int) := by omega
  go_wp2
  refine wp_loop_rounds 1 ?_
  rw [rounds_succ]
  go_wp2
  go_ret2
  exact ⟨_, rfl, O3.out, B3.out⟩

set_option maxHeartbeats 1000000 in
theorem merge_bad (va vb : Value) (a b : List Plain.En) (hla : a.length ≤ 9223372036854775807) (hlb : b.length ≤ 9223372036854775807) (h : ¬ (Plain.mayL a = true ∧ Plain.mayL b = true)) (w : World) (sa : SegN w va a) (ya : Lies w.heap.size va) (sb : SegN w vb b) (yb : Lies w.heap.size vb) :
    Calls Try.prog 34 #[va, vb] w fun e w' => e = .returned (.tuple #[.slice none 0 0, .int .i64 (4 : Nat)]) ∧ Below w.heap.size w w' := by
  have K1 := may_any va a hla w sa ya
  have K2 := fun w1 (b1 : Below w.heap.size w w1) => may_any vb b hlb w1 (sb.below b1 yb) (yb.mono b1.size)
  clear sa sb ya yb
  cases ha : Plain.mayL a with
  | false =>
    rw [ha] at K1
    clear h ha
    go_enter Try.func34, Try.ntmps34
    go_wp2_with fail
    refine K1.mono ?_
    rintro e w1 ⟨rfl, b1⟩
    go_wp2
    go_ret2
    exact ⟨rfl, b1⟩
  | true =>
    have hb : Plain.mayL b = false := by
      cases hb : Plain.mayL b with
      | false => rfl
      | true => exact absurd ⟨ha, hb⟩ h
    rw [ha] at K1
    rw [hb] at K2
    clear h ha hb
    go_enter Try.func34, Try.ntmps34
    go_wp2_with fail
    refine K1.mono ?_
    rintro e w1 ⟨rfl, b1⟩
    go_wp2_with fail
    refine (K2 w1 b1).mono ?_
    rintro e w2 ⟨rfl, b2⟩
    have B2 := hid (b1.trans (b2.mono b1.size))
    clear b1 b2 K1 K2
    go_wp2
    go_ret2
    exact ⟨rfl, B2.out⟩

theorem merge_anyT (va vb : Value) (a b : List Plain.En) (hla : a.length ≤ 9223372036854775807) (hlb : b.length ≤ 9223372036854775807) (w : World) (sa : SegN w va a) (ya : Lies w.heap.size va) (sb : SegN w vb b) (yb : Lies w.heap.size vb) :
    Calls Try.prog 34 #[va, vb] w fun e w' =>
      ∃ r, e = .returned (.tuple #[r, .int .i64 (Plain.mergeE a b : Nat)]) ∧ SegN w' r (Plain.mergeR a b) ∧ LiesT w' r ∧ Below w.heap.size w w' := by
  by_cases h : Plain.mayL a = true ∧ Plain.mayL b = true
  · by_cases h0 : 0 < b.length
    · obtain ⟨bb, off, c, rfl, hcc, hc⟩ := sb.some h0
      exact merge_walk va a b bb off c h.1 h.2 h0 w sa ya (yb ⟨bb, off, none⟩ _ _ rfl h0) hc hcc
    · obtain rfl : b = [] := List.length_eq_zero_iff.1 (by omega)
      obtain ⟨p, c, rfl, _⟩ := sb.form
      have a8 : a.length ≤ 8 := ((Plain.may_iff a).1 h.1).1
      have e1 : Plain.mergeE a [] = 0 := by unfold Plain.mergeE; rw [if_pos h, if_pos (by exact a8)]
      have e2 : Plain.mergeR a [] = a := by unfold Plain.mergeR; rw [if_pos e1]; rfl
      rw [e1, e2]
      exact (merge_nil va a p c h.1 w sa ya).mono fun e w' ⟨r, h1, h2, h3⟩ => ⟨r, h1, h2.seg.1, ⟨h2.seg.2, h2.ty⟩, h3⟩
  · have e1 : Plain.mergeE a b = 4 := by unfold Plain.mergeE; rw [if_neg h]
    have e2 : Plain.mergeR a b = [] := by unfold Plain.mergeR; rw [e1]; rfl
    rw [e1, e2]
    exact (merge_bad va vb a b hla hlb h w sa ya sb yb).mono fun e w' ⟨h1, h2⟩ => ⟨_, h1, SegN.nil _, ⟨lies_nil _ _ _, TyE.nil _ _ _⟩, h2⟩

theorem merge_any (va vb : Value) (a b : List Plain.En) (hla : a.length ≤ 9223372036854775807) (hlb : b.length ≤ 9223372036854775807) (w : World) (sa : SegN w va a) (ya : Lies w.heap.size va) (sb : SegN w vb b) (yb : Lies w.heap.size vb) :
    Calls Try.prog 34 #[va, vb] w fun e w' =>
      ∃ r, e = .returned (.tuple #[r, .int .i64 (Plain.mergeE a b : Nat)]) ∧ SegN w' r (Plain.mergeR a b) ∧ Lies w'.heap.size r ∧ Below w.heap.size w w' :=
  (merge_anyT va vb a b hla hlb w sa ya sb yb).mono fun _ _ ⟨r, h1, h2, h3, h4⟩ => ⟨r, h1, h2, h3.1, h4⟩
end Go.Proofs.Ytcobehkadhcjiaa

/-
  A contract of reg.Merge: what comes lies in a row of its own.
-/
namespace Go.Proofs.Ytcobehkadhcjiaa
open Go.RowKit Go.Sort

set_option maxHeartbeats 8000000 in
set_option maxRecDepth 100000 in
theorem mergeW_walk (va : Value) (a b : List Plain.En) (bb off c : Nat) (ha : Plain.mayL a = true) (hb : Plain.mayL b = true) (h0 : 0 < b.length) (w : World) (sa : SegN w va a) (ya : Lies w.heap.size va) (hlt : bb < w.heap.size) (hc : CellsN w bb off b) (hcc : b.length ≤ c) :
    Calls Try.prog 34 #[va, .slice (some ⟨bb, off, none⟩) b.length c] w fun e w' =>
      ∃ r, e = .returned (.tuple #[r, .int .i64 (Plain.mergeE a b : Nat)]) ∧ OwnN w' w.heap.size 41 r (Plain.mergeR a b) ∧ Below w.heap.size w w' := by
  obtain ⟨a8, _, asrt⟩ := (Plain.may_iff a).1 ha
  have b8 : b.length ≤ 8 := ((Plain.may_iff b).1 hb).1
  have K1 := may_any va a (by omega) w sa ya
  have sb : SegN w (.slice (some ⟨bb, off, none⟩) b.length c) b := .inr ⟨bb, off, c, rfl, hcc, hc⟩
  have K2 := fun w1 (b1 : Below w.heap.size w w1) => may_any _ b (by omega) w1 (sb.below b1 (lies_at hlt)) (lies_at (Nat.lt_of_lt_of_le hlt b1.size))
  have K3 := fun w1 (b1 : Below w.heap.size w w1) => clone_any va a (by omega) w1 (sa.below b1 ya) (ya.mono b1.size)
  have HE := hid (show Plain.mergeE a b = if (Plain.mergeL a b).length ≤ 8 then 0 else 8 by unfold Plain.mergeE; rw [if_pos ⟨ha, hb⟩])
  have HC := hid hc
  have HA := hid asrt
  rw [ha] at K1
  rw [hb] at K2
  clear sa sb hc asrt hcc ha hb ya
  go_enter Try.func34, Try.ntmps34
  go_wp2_with fail
  refine K1.mono ?_
  rintro e w1 ⟨rfl, b1⟩
  go_wp2_with fail
  refine (K2 w1 b1).mono ?_
  rintro e w2 ⟨rfl, b2⟩
  have B2 := hid (b1.trans (b2.mono b1.size))
  clear b1 b2 K1 K2
  go_wp2_with fail
  refine (K3 w2 B2.out).mono ?_
  rintro e w3 ⟨v3, rfl, o3, b3⟩
  have O3 := hid (o3.base B2.out.size)
  have B3 := hid (B2.out.trans (b3.mono B2.out.size))
  clear o3 b3 B2 K3
  go_wp2
  go_loopw [6, 23] (fun vo i wx => ∃ k : Nat, k ≤ b.length ∧ i = .int .i64 k ∧ OwnN wx w.heap.size 41 vo (Plain.mergeL a (b.take k)) ∧ Below w.heap.size w wx) (fun _ i _ => b.length - (intOf i).toNat)
  case atStart => exact ⟨0, Nat.zero_le _, rfl, O3.out, B3.out⟩
  case round =>
    obtain ⟨k, hk, rfl, hO, hbel⟩ := hrel
    by_cases hlt2 : k < b.length
    · have hlt' : (k : Int) < (b.length : Int) := by omega
      obtain ⟨c0, c1, c2, c3, c4⟩ := (HC.out k hlt2).below hbel hlt
      have HP := hid (Plain.merge_take a b k hlt2)
      have HSR := hid (Plain.merge_srt HA.out (b.take k))
      have hM16 : (Plain.mergeL a (b.take k)).length ≤ 16 := by
        have := (Plain.merge_len a (b.take k)).2
        rw [List.length_take] at this
        omega
      generalize Plain.mergeL a (b.take k) = M at hO HP HSR hM16
      generalize Plain.en b k = y at c0 c1 c2 c3 c4 HP
      have hsz := hbel.size
      have HO := hid hO
      have HB := hid hbel
      clear hO hbel
      go_wp2_with fail
      have HO1 := hid (HO.out.grow ((Below.refl _ _).alloc (Nat.le_refl _) (boxE y)))
      refine (search_any u6 y.key M HSR.out (by omega) _ HO1.out.seg.1 HO1.out.seg.2).mono ?_
      rintro e w4 ⟨rfl, b4⟩
      have HO4 := hid (HO1.out.grow b4)
      obtain ⟨x0, x1, x2, x3, x4⟩ := (box_at wr y).below b4 (by simp)
      simp only [Nat.zero_add] at x1 x2 x3 x4
      have HX := hid ((box_at wr y).below b4 (by simp))
      have hs4 : wr.heap.size < w4.heap.size := by have := b4.size; simp at this; omega
      have B4 := hid (show Below w.heap.size w w4 from (HB.out.alloc HB.out.size _).trans (b4.mono (by simp; omega)))
      clear b4 c0 c1 c2 c3 c4 HO HO1 HB
      have HPT := hid (HP.out.trans (Plain.put_at HSR.out y))
      have hle := Plain.less_le y.key M
      cases hq : Plain.hasK y.key M with
      | false =>
        rw [hq] at HPT
        simp only [Bool.false_eq_true, if_false] at HPT
        clear hq
        generalize Plain.less y.key M = t at HPT hle
        have HO5 := hid (HO4.out.grow ((Below.refl _ _).alloc (Nat.le_refl _) (boxE y)))
        have KI := insert_any u6 t w4.heap.size w.heap.size M y (w4.alloc (boxE y)) hle (by omega) (by simp; omega) HO5.out (Deep.blk_alloc_new w4 _) (fun g n cc e hgg => by
          subst e
          rcases HO4.out.2 with ⟨e, _⟩ | ⟨g', cap, cur, e, _, hb, _⟩
          · cases e
          · simp only [Value.slice.injEq, Option.some.injEq, Addr.mk.injEq, and_true] at e
            obtain ⟨rfl, _, _⟩ := e
            have := (Array.getElem?_eq_some_iff.1 hb).1
            omega)
        go_wp2_with fail
        refine KI.mono ?_
        rintro e w5 ⟨v5, rfl, o5, b5⟩
        have O5 := hid o5
        have B5 := hid (show Below w.heap.size w w5 from (B4.out.alloc B4.out.size _).trans b5)
        clear o5 b5 KI x0 x1 x2 x3 x4
        go_wp2
        go_roundw
        case rel => exact ⟨k + 1, by omega, by go_num, by rw [HPT.out]; exact O5.out, B5.out⟩
        case measure => simp [intOf]; omega
      | true =>
        have ht : Plain.less y.key M < M.length := by
          unfold Plain.hasK at hq
          exact (of_decide_eq_true hq).1
        rw [hq] at HPT
        simp only [if_true] at HPT
        clear hq hle
        generalize Plain.less y.key M = t at HPT ht
        obtain ⟨g, cc, rfl, hBg, hgw, hnc, hc63⟩ := HO4.out.at (by omega)
        have HZ := hid (HO4.out.cells t ht)
        have KA := fun W => newer_g y (Plain.en M t) W
        generalize hz : Plain.en M t = z at HPT HZ KA
        clear hz
        generalize Plain.newer y z = r at HPT KA
        have ht' : (t : Int) < (M.length : Int) := by omega
        have mixed : Try.prog.follows .mixedOrders = true := by kernel_rfl
        generalize hN : M.length = n at ht' hnc hM16 ht ⊢
        have HN := hid hN
        clear hN x0 x1 x2 x3 x4
        have p0 := fun n os => (HX.out.grown n os).c0
        have p1 := fun n os => (HX.out.grown n os).c1
        have p2 := fun n os => (HX.out.grown n os).c2
        have p3 := fun n os => (HX.out.grown n os).c3
        have p4 := fun n os => (HX.out.grown n os).c4
        have q0 := fun n os => (HZ.out.grown n os).c0
        have q1 := fun n os => (HZ.out.grown n os).c1
        have q2 := fun n os => (HZ.out.grown n os).c2
        have q3 := fun n os => (HZ.out.grown n os).c3
        have q4 := fun n os => (HZ.out.grown n os).c4
        simp only [Nat.zero_add] at p1 p2 p3 p4 q0 q1 q2 q3 q4
        go_wp2
        go_quiet_grown (first | (go_at_call 73; exact Calls.grown_of (KA _)) | fail)
        obtain ⟨w5, hw5⟩ : ∃ w5, w5 = grow (w4.drewN nq) osq := ⟨_, rfl⟩
        rw [← hw5]
        have O5 := hid (show OwnN w5 w.heap.size 41 (.slice (some ⟨g, 0, none⟩) n cc) M by rw [hw5]; have := HO4.out.grow (below_grow (Below.refl w4.heap.size w4) (Nat.le_refl _) nq osq); rwa [HN.out] at this)
        have X5 := hid (show CellN w5 wr.heap.size 0 y by rw [hw5]; exact HX.out.grown nq osq)
        have B5 := hid (show Below w.heap.size w w5 by rw [hw5]; exact below_grow B4.out B4.out.size nq osq)
        clear hw5 p0 p1 p2 p3 p4 q0 q1 q2 q3 q4 KA HX HZ B4 HO4
        cases r with
        | false =>
          simp only [Bool.false_eq_true, if_false] at HPT
          go_wp2
          go_roundw
          case rel => exact ⟨k + 1, by omega, by go_num, by rw [HPT.out]; exact O5.out, B5.out⟩
          case measure => simp [intOf]; omega
        | true =>
          simp only [if_true] at HPT
          obtain ⟨x0, x1, x2, x3, x4⟩ := X5.out
          obtain ⟨z0, z1, z2, z3, z4⟩ := O5.out.cells t (by rw [HN.out]; exact ht)
          have f0 := O5.out.frozen (by rw [HN.out]; omega) (t * 5)
          have f1 := O5.out.frozen (by rw [HN.out]; omega) (t * 5 + 1)
          have f2 := O5.out.frozen (by rw [HN.out]; omega) (t * 5 + 2)
          have f3 := O5.out.frozen (by rw [HN.out]; omega) (t * 5 + 3)
          have f4 := O5.out.frozen (by rw [HN.out]; omega) (t * 5 + 4)
          simp only [Nat.zero_add] at x1 x2 x3 x4 z0 z1 z2 z3 z4
          generalize Plain.en M t = q at z0 z1 z2 z3 z4
          go_wp2
          go_roundw
          case rel => exact ⟨k + 1, by omega, by go_num, by rw [HPT.out]; exact O5.out.set t (by rw [HN.out]; exact ht) y, below_setE B5.out hBg y⟩
          case measure => simp [intOf]; omega
    · have ek : k = b.length := by omega
      subst ek
      rw [List.take_length] at hO
      obtain ⟨p, cc, rfl⟩ := hO.form
      have HO := hid hO.seg
      have HT := hid hO
      have HB := hid hbel
      clear hO hbel
      by_cases h8 : (Plain.mergeL a b).length ≤ 8
      · have HR := hid (show Plain.mergeE a b = 0 by rw [HE.out, if_pos h8])
        have HR2 := hid (show Plain.mergeR a b = Plain.mergeL a b by unfold Plain.mergeR; rw [if_pos HR.out])
        generalize Plain.mergeL a b = M at h8 HO HR2 HT
        have h8' : ¬ 8 < (M.length : Int) := by omega
        clear HE
        go_wp2
        go_ret2
        exact ⟨_, by rw [HR.out]; rfl, by rw [HR2.out]; exact HT.out, HB.out⟩
      · have HR := hid (show Plain.mergeE a b = 8 by rw [HE.out, if_neg h8])
        have HR2 := hid (show Plain.mergeR a b = [] by unfold Plain.mergeR; rw [HR.out]; rfl)
        clear HT
        generalize Plain.mergeL a b = M at h8 HO
        have h8' : 8 < (M.length : Int) := by omega
        clear HE
        go_wp2
        go_ret2
        exact ⟨_, by rw [HR.out]; rfl, by rw [HR2.out]; exact OwnN.nil _ _ _, HB.out⟩

theorem merge_own (va vb : Value) (a b : List Plain.En) (hla : a.length ≤ 9223372036854775807) (hlb : b.length ≤ 9223372036854775807) (w : World) (sa : SegN w va a) (ya : Lies w.heap.size va) (sb : SegN w vb b) (yb : Lies w.heap.size vb) :
    Calls Try.prog 34 #[va, vb] w fun e w' =>
      ∃ r, e = .returned (.tuple #[r, .int .i64 (Plain.mergeE a b : Nat)]) ∧ OwnN w' w.heap.size 41 r (Plain.mergeR a b) ∧ Below w.heap.size w w' := by
  by_cases h : Plain.mayL a = true ∧ Plain.mayL b = true
  · by_cases h0 : 0 < b.length
    · obtain ⟨bb, off, c, rfl, hcc, hc⟩ := sb.some h0
      exact mergeW_walk va a b bb off c h.1 h.2 h0 w sa ya (yb ⟨bb, off, none⟩ _ _ rfl h0) hc hcc
    · obtain rfl : b = [] := List.length_eq_zero_iff.1 (by omega)
      obtain ⟨p, c, rfl, _⟩ := sb.form
      have a8 : a.length ≤ 8 := ((Plain.may_iff a).1 h.1).1
      have e1 : Plain.mergeE a [] = 0 := by unfold Plain.mergeE; rw [if_pos h, if_pos (by exact a8)]
      have e2 : Plain.mergeR a [] = a := by unfold Plain.mergeR; rw [if_pos e1]; rfl
      rw [e1, e2]
      exact merge_nil va a p c h.1 w sa ya
  · have e1 : Plain.mergeE a b = 4 := by unfold Plain.mergeE; rw [if_neg h]
    have e2 : Plain.mergeR a b = [] := by unfold Plain.mergeR; rw [e1]; rfl
    rw [e1, e2]
    exact (merge_bad va vb a b hla hlb h w sa ya sb yb).mono fun e w' ⟨h1, h2⟩ => ⟨_, h1, OwnN.nil _ _ _, h2⟩
end Go.Proofs.Ytcobehkadhcjiaa
