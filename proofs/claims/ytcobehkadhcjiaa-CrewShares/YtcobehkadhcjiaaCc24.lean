/-
  Goroutines among others: part 24 of what the law's own text rests on.
-/
import Derived.Test.YtcobehkadhcjiaaCc23
/-
  Contracts of sort.Search with the literal of share.Split, and of share.Split.
-/
namespace Go.Proofs.Ytcobehkadhcjiaa.Bo
open Go.RowKit Go.Shelf

theorem drewN_add (w : World) (p q : Nat) : (w.drewN p).drewN q = w.drewN (p + q) := by simp

set_option maxHeartbeats 2000000 in
theorem search_c (bw bt : Nat) (p : Option Addr) (c : Nat) (l : List Int) (t : Int) (hw : Plain.Wm l) (w : World) (hbig : l.length ≤ 16) (hp : Wants w p l)
    (hb : w.cell? ⟨bw, 0, none⟩ = some (.slice p l.length c)) (ht : w.cell? ⟨bt, 0, none⟩ = some (.int .i64 t)) :
    Calls Try.prog 52 #[.int .i64 1048576, .func (.func 53) #[] #[.pointer (some ⟨bw, 0, none⟩), .pointer (some ⟨bt, 0, none⟩)]] w fun e w' =>
      ∃ s q : Nat, e = .returned (.int .i64 s) ∧ w' = w.drewN q ∧ s ≤ 1048576 ∧ (∀ i : Nat, i < s → decide (t < Plain.sm ((i : Int) + 1) l) = false) ∧ (∀ i : Nat, s ≤ i → i < 1048576 → decide (t < Plain.sm ((i : Int) + 1) l) = true) := by
  have K : Aside (∀ (q i : Nat), i < 1048576 → Calls Try.prog 53 #[.int .i64 i, .pointer (some ⟨bw, 0, none⟩), .pointer (some ⟨bt, 0, none⟩)] (w.drewN q) fun e w' => e = .returned (.bool (decide (t < Plain.sm ((i : Int) + 1) l))) ∧ ∃ q', w' = (w.drewN q).drewN q') :=
    fun q i hi => more_c bw bt p c l t i hi hw (w.drewN q) hbig (hp.drew q) (by simpa using hb) (by simpa using ht)
  have M : Aside (∀ i j : Nat, i ≤ j → decide (t < Plain.sm ((i : Int) + 1) l) = true → decide (t < Plain.sm ((j : Int) + 1) l) = true) := fun i j hij h => by
    rw [decide_eq_true_iff] at h ⊢
    have := Plain.sm_mono (show (i : Int) + 1 ≤ (j : Int) + 1 by omega) l
    omega
  clear hp hw hb ht hbig
  obtain ⟨P, hP⟩ : ∃ P : Nat → Bool, P = fun i : Nat => decide (t < Plain.sm ((i : Int) + 1) l) := ⟨_, rfl⟩
  have e : ∀ i : Nat, decide (t < Plain.sm ((i : Int) + 1) l) = P i := fun i => by rw [hP]
  simp only [e] at K M ⊢
  clear e hP
  go_enter Try.func52, Try.ntmps52
  go_wp2
  go_loopg [5, 6] 1048576 (fun gg s5 s6 wr => ∃ lo hi q : Nat, s5 = .int .i64 lo ∧ s6 = .int .i64 hi ∧ lo ≤ hi ∧ hi ≤ 1048576 ∧ hi - lo ≤ gg ∧ wr = w.drewN q ∧ Aside ((∀ i : Nat, i < lo → P i = false) ∧ (∀ i : Nat, hi ≤ i → i < 1048576 → P i = true)))
  case atStart => exact ⟨0, 1048576, 0, rfl, rfl, Nat.zero_le _, Nat.le_refl _, by omega, rfl, (show Aside _ from ⟨fun i hi => absurd hi (Nat.not_lt_zero _), fun i h1 h2 => by omega⟩)⟩
  case round =>
    obtain ⟨lo, hi, q, rfl, rfl, hlh, hin, hg, rfl, I⟩ := hrel
    by_cases hlt : lo < hi
    · have hc := K.out q ((lo + hi) / 2) (by omega)
      rw [show (((lo + hi) / 2 : Nat) : Int) = ((lo : Int) + (hi : Int)) / 2 by omega] at hc
      cases hp : P ((lo + hi) / 2) <;> rw [hp] at hc
      · have HP : Aside (P ((lo + hi) / 2) = false) := hp
        clear hp
        go_wp2_with (go_at_call 53; refine hc.mono ?_; rintro e w' ⟨rfl, nq, rfl⟩)
        go_roundg (hi - ((lo + hi) / 2 + 1))
        case measure => omega
        case rel =>
          refine ⟨(lo + hi) / 2 + 1, hi, q + nq, by rw [show ((lo : Int) + (hi : Int)) / 2 + 1 = (((lo + hi) / 2 + 1 : Nat) : Int) by omega], rfl, by omega, hin, Nat.le_refl _, rfl, (show Aside _ from ⟨fun i hi2 => ?_, I.out.2⟩)⟩
          cases h : P i with
          | false => rfl
          | true => have := M.out i ((lo + hi) / 2) (by omega) h; rw [HP.out] at this; cases this
      · have HP : Aside (P ((lo + hi) / 2) = true) := hp
        clear hp
        go_wp2_with (go_at_call 53; refine hc.mono ?_; rintro e w' ⟨rfl, nq, rfl⟩)
        go_roundg ((lo + hi) / 2 - lo)
        case measure => omega
        case rel =>
          exact ⟨lo, (lo + hi) / 2, q + nq, rfl, by rw [show ((lo : Int) + (hi : Int)) / 2 = (((lo + hi) / 2 : Nat) : Int) by omega], by omega, by omega, Nat.le_refl _, rfl, (show Aside _ from ⟨I.out.1, fun i h1 h2 => M.out ((lo + hi) / 2) i h1 HP.out⟩)⟩
    · obtain rfl : hi = lo := by omega
      go_wp2
      go_ret
      exact ⟨hi, q, rfl, rfl, hin, I.out.1, I.out.2⟩
end Go.Proofs.Ytcobehkadhcjiaa.Bo

/-
  A contract of share.Split.
-/
namespace Go.Proofs.Ytcobehkadhcjiaa.Bo
open Go.RowKit Go.Shelf

theorem below_drewN {B : Nat} {w w' : World} (h : Below B w w') (q : Nat) : Below B w (w'.drewN q) := ⟨h.os, h.tape, h.output, h.size, h.block⟩
theorem row_step {wr : World} {k n B : Nat} {f : Nat → Int} {x : Int} (hx : f k = x)
    (hrow : wr.rowIs B 3 n (fun j => if j < k then .int .i64 (f j) else .int .i64 0)) :
    (wr.setCell ⟨B, k, none⟩ (.int .i64 x)).rowIs B 3 n (fun j => if j < k + 1 then .int .i64 (f j) else .int .i64 0) := by
  refine (hrow.set k (.int .i64 x)).congr fun j _ => ?_
  by_cases c : j = k
  · subst c; rw [if_pos rfl, if_pos (by omega), hx]
  · rw [if_neg c]
    by_cases d : j < k
    · rw [if_pos d, if_pos (by omega)]
    · rw [if_neg d, if_neg (by omega)]
theorem row_step2 {wr : World} {k n B : Nat} {f : Nat → Int} {x y : Int} (hx : f k = x)
    (hrow : wr.rowIs B 3 n (fun j => if j < k then .int .i64 (f j) else .int .i64 0)) :
    ((wr.setCell ⟨B, k, none⟩ (.int .i64 y)).setCell ⟨B, k, none⟩ (.int .i64 x)).rowIs B 3 n (fun j => if j < k + 1 then .int .i64 (f j) else .int .i64 0) := by
  refine ((hrow.set k (.int .i64 y)).set k (.int .i64 x)).congr fun j _ => ?_
  by_cases c : j = k
  · subst c; rw [if_pos rfl, if_pos (by omega), hx]
  · rw [if_neg c, if_neg c]
    by_cases d : j < k
    · rw [if_pos d, if_pos (by omega)]
    · rw [if_neg d, if_neg (by omega)]

theorem Try.infoInt : (Try.prog.info? 3).map (fun i => (i.zero, i.size, i.bytes)) = some (some (.int .i64 0), 1, 8) := by kernel_rfl
/-- The boxes in which Split's arguments lie. -/
abbrev boxI (x : Int) : Obj := .cells #[.int .i64 x] 3
abbrev boxS (v : Value) : Obj := .cells #[v] 22

set_option maxHeartbeats 4000000 in
set_option maxRecDepth 100000 in
theorem split_ok (p : Option Addr) (n c : Nat) (l : List Int) (t : Int) (hE : Plain.splitE t l = 0) (w : World) (hn : l.length = n) (hp : Wants w p l) :
    Calls Try.prog 22 #[.int .i64 t, .slice p n c] w fun e w' =>
      ∃ g, e = .returned (.tuple #[.slice (some ⟨g, 0, none⟩) n n, .int .i64 0]) ∧ RowI w' g (Plain.splitL t l) ∧ w.heap.size ≤ g ∧ Below w.heap.size w w' := by
  obtain ⟨h16, ht, hw⟩ := Plain.splitE_zero hE
  have hn16 : n ≤ 16 := by omega
  have hn16' : ¬ (16 : Int) < (n : Int) := by omega
  obtain ⟨W, hW⟩ : ∃ W, W = (w.alloc (boxI t)).alloc (boxS (.slice p n c)) := ⟨_, rfl⟩
  have bel : Below w.heap.size w W := by rw [hW]; exact ((Below.refl _ _).alloc (Nat.le_refl _) _).alloc (by simp) _
  have hWs : W.heap.size = w.heap.size + 2 := by rw [hW]; simp
  have ct : W.cell? ⟨w.heap.size, 0, none⟩ = some (.int .i64 t) := by
    rw [hW, World.cell?_alloc_lt _ _ _ (by simp), World.cell?_alloc_at _ _ _ _ (by simp)]; rfl
  have cw : W.cell? ⟨w.heap.size + 1, 0, none⟩ = some (.slice p n c) := by
    rw [hW, World.cell?_alloc_at _ _ _ _ (by simp)]; rfl
  have hpW := hp.grow bel
  have K1 := isCount_c t W
  have K2 := containsC p n c l W hn (by omega) hpW
  have K3 := search_c (w.heap.size + 1) w.heap.size p c l t hw W h16 hpW (by rw [hn]; exact cw) ct
  rw [Plain.badC_no.2 ht] at K1
  rw [Plain.wm_any hw] at K2
  rw [hW] at K1 K2 K3
  have HW := hid hW
  have HWm := hid hw
  have HP := hid hpW
  have HN := hid hn
  have HB := hid bel
  have HCT := hid ct
  have HCW := hid cw
  clear hW hw hpW hn bel ct cw hp hE
  have hmf : ∀ (fn : Fn) (first cap : Array Value) (w : World), (Instr.makeFunc fn first cap).run Try.prog w = .ok (.func fn first cap) w := fun _ _ _ _ => rfl
  have hmk := run_make_row' (P := Try.prog) 22 3 (.int .i64 0) 8 Try.underlying22 Try.infoInt rfl .i64 .i64 n (by omega) (by omega)
  go_enter Try.func22, Try.ntmps22
  go_wp2_with fail
  refine K1.mono ?_
  rintro e w' ⟨rfl, rfl⟩
  clear K1
  go_wp2_with fail
  refine K2.mono ?_
  rintro e w' ⟨rfl, rfl⟩
  clear K2
  go_wp2_with fail
  refine K3.mono ?_
  rw [← HW.out]
  rintro e w' ⟨s, q, rfl, rfl, hs, g1, g2⟩
  clear K3
  obtain ⟨FE, FS⟩ := Plain.split_found HWm.out ht.1 s hs g1 g2
  clear g1 g2
  obtain ⟨W2, hW2⟩ : ∃ W2, W2 = W.drewN q := ⟨_, rfl⟩
  rw [← hW2]
  have c2t : W2.cell? ⟨w.heap.size, 0, none⟩ = some (.int .i64 t) := by rw [hW2]; simpa using HCT.out
  have c2w : W2.cell? ⟨w.heap.size + 1, 0, none⟩ = some (.slice p n c) := by rw [hW2]; simpa using HCW.out
  have HP2 := hid (show Wants W2 p l by rw [hW2]; exact HP.out.drew q)
  have HB2 := hid (show Below w.heap.size w W2 by rw [hW2]; exact below_drewN HB.out q)
  have hs2 : W2.heap.size = w.heap.size + 2 := by rw [hW2]; exact hWs
  clear hW2 HP HB HCT HCW HW hWs
  have KT := fun q => together_c p n c l s (by omega) (by omega) HWm.out (W2.drewN q) HN.out hn16 (HP2.out.drew q)
  have hS0 := (Plain.sm_bd (L := (s : Int)) HWm.out (by omega)).1
  generalize Plain.sm s l = S at KT FE FS hS0
  have HFE := hid FE
  clear FE
  obtain ⟨h0, h1⟩ := ht
  go_wp2
  go_quiet ((go_at_call 54; exact Calls.quiet_of_same (KT _)))
  obtain ⟨W3, hW3⟩ : ∃ W3, W3 = W2.drewN nq := ⟨_, rfl⟩
  rw [← hW3]
  have c3w : W3.cell? ⟨w.heap.size + 1, 0, none⟩ = some (.slice p n c) := by rw [hW3]; simpa using c2w
  have HP3 := hid (show Wants W3 p l by rw [hW3]; exact HP2.out.drew nq)
  have HB3 := hid (show Below w.heap.size w W3 by rw [hW3]; exact below_drewN HB2.out nq)
  have hs3 : W3.heap.size = w.heap.size + 2 := by rw [hW3]; exact hs2
  have c3a : (W3.alloc (.cells (madeCells #[.int .i64 0] n) 3)).cell? ⟨w.heap.size + 1, 0, none⟩ = some (.slice p n c) := by rw [World.cell?_alloc_lt _ _ _ (by simp; omega)]; exact c3w
  clear hW3 HP2 HB2 c2t c2w hs2 KT
  have hr0 : 0 ≤ t - S := by omega
  have hr1 : t - S ≤ 1048576 := by omega
  generalize t - S = r at HFE hr0 hr1
  have HS3 := hid hs3
  clear FS hS0 hmf hs3
  go_wp2
  clear hmk c3w c3a
  go_loopg [7, 33] n (fun gg s7 s33 wr => ∃ (k : Nat) (Lf : Int), k ≤ n ∧ n - k ≤ gg ∧ s33 = .int .i64 k ∧ s7 = .int .i64 Lf ∧ Aside (Lf = Plain.lft s r l k ∧ wr.rowIs W3.heap.size 3 n (fun j => if j < k then .int .i64 ((Plain.give s r l).getD j 0) else .int .i64 0) ∧ Below W3.heap.size W3 wr))
  case atStart => exact ⟨0, r, Nat.zero_le _, by omega, rfl, rfl, (show Aside _ from ⟨(Plain.lft_zero _ _ _ hr0).symm, World.rowIs_made W3 (.int .i64 0) n 3, (Below.refl _ _).alloc (Nat.le_refl _) _⟩)⟩
  case round =>
    obtain ⟨k, Lf, hkk, hg, rfl, rfl, A⟩ := hrel
    by_cases hlt : k < n
    · have hltz : (k : Int) < (n : Int) := by omega
      have hk0 : (0 : Int) ≤ (k : Int) := by omega
      have hll : k < l.length := by rw [HN.out]; exact hlt
      obtain ⟨b, off, rfl, hb, hc⟩ := (HP3.out.grow A.out.2.2) (by omega)
      have c0 := hc k hll
      clear hc
      have hy0 := HWm.out _ (Plain.mem_getD hll)
      have hgv := Plain.give_here s r l k hll hr0
      have hlf := Plain.lft_next s r l k hll
      have hlb := Plain.lft_bd s r l k
      rw [← A.out.1] at hgv hlf hlb
      have hlb1 : 0 ≤ Lf := hlb.1
      have hlb2 : Lf ≤ 1048576 := by have := hlb.2 hr0; omega
      clear hlb
      generalize hy : l.getD k 0 = y at c0 hy0 hgv hlf
      clear hy
      have hsz := A.out.2.1.lt
      have hfz := A.out.2.1.frozen k
      have hcl := A.out.2.1.cell hlt
      by_cases hm : (s : Int) < y
      · rw [if_neg (by omega)] at hgv
        by_cases hp0 : 0 < Lf
        · rw [if_pos hp0] at hgv
          rw [if_pos ⟨hm, hp0⟩] at hlf
          have R := hid (row_step2 (y := (s : Int)) hgv A.out.2.1)
          have RB := hid (((A.out.2.2.setCell (p := ⟨W3.heap.size, k, none⟩) (Nat.le_refl _) (.int .i64 s))).setCell (p := ⟨W3.heap.size, k, none⟩) (Nat.le_refl _) (.int .i64 ((s : Int) + 1)))
          have HLF := hid hlf
          clear hlf hgv
          go_wp2
          go_roundg (n - (k + 1))
          case measure => omega
          case rel => exact ⟨k + 1, Lf - 1, by omega, by omega, by go_num, rfl, (show Aside _ from ⟨HLF.out.symm, R.out, RB.out⟩)⟩
        · rw [if_neg hp0] at hgv
          rw [if_neg (fun h => hp0 h.2)] at hlf
          have R := hid (row_step hgv A.out.2.1)
          have RB := hid (A.out.2.2.setCell (p := ⟨W3.heap.size, k, none⟩) (Nat.le_refl _) (.int .i64 s))
          have HLF := hid hlf
          clear hlf hgv
          go_wp2
          go_roundg (n - (k + 1))
          case measure => omega
          case rel => exact ⟨k + 1, Lf, by omega, by omega, by go_num, rfl, (show Aside _ from ⟨HLF.out.symm, R.out, RB.out⟩)⟩
      · rw [if_pos (by omega)] at hgv
        rw [if_neg (fun h => hm h.1)] at hlf
        have R := hid (row_step hgv A.out.2.1)
        have RB := hid (A.out.2.2.setCell (p := ⟨W3.heap.size, k, none⟩) (Nat.le_refl _) (.int .i64 y))
        have HLF := hid hlf
        clear hlf hgv
        go_wp2
        go_roundg (n - (k + 1))
        case measure => omega
        case rel => exact ⟨k + 1, Lf, by omega, by omega, by go_num, rfl, (show Aside _ from ⟨HLF.out.symm, R.out, RB.out⟩)⟩
    · have hltz : ¬ (k : Int) < (n : Int) := by omega
      have hk : k = n := by omega
      go_wp2
      go_ret2
      refine ⟨W3.heap.size, rfl, ?_, by have := HS3.out; omega, HB3.out.trans (A.out.2.2.mono (by have := HS3.out; omega))⟩
      rw [HFE.out]
      refine RowI.of_rowIs A.out.2.1 (by rw [Plain.give_len, HN.out]; exact Nat.le_refl _) fun i hi => ?_
      rw [Plain.give_len, HN.out] at hi
      rw [if_pos (by omega)]
end Go.Proofs.Ytcobehkadhcjiaa.Bo

/-
  share.Split at whatever arguments.
-/
namespace Go.Proofs.Ytcobehkadhcjiaa.Bo
open Go.RowKit Go.Shelf

set_option maxHeartbeats 2000000 in
theorem split_err (p : Option Addr) (n c : Nat) (l : List Int) (t : Int) (hE : Plain.splitE t l ≠ 0) (w : World) (hn : l.length = n) (hbig : n ≤ 9223372036854775807) (hp : Wants w p l) :
    Calls Try.prog 22 #[.int .i64 t, .slice p n c] w fun e w' =>
      e = .returned (.tuple #[.slice none 0 0, .int .i64 (Plain.splitE t l : Nat)]) ∧ Below w.heap.size w w' := by
  obtain ⟨W, hW⟩ : ∃ W, W = (w.alloc (boxI t)).alloc (boxS (.slice p n c)) := ⟨_, rfl⟩
  have bel : Below w.heap.size w W := by rw [hW]; exact ((Below.refl _ _).alloc (Nat.le_refl _) _).alloc (by simp) _
  have K1 := isCount_c t W
  have K2 := containsC p n c l W hn (by omega) (hp.grow bel)
  rw [hW] at K1 K2
  have HB := hid (show Below w.heap.size w ((w.alloc (boxI t)).alloc (boxS (.slice p n c))) by rw [← hW]; exact bel)
  clear hW bel hp
  unfold Plain.splitE at hE ⊢
  rw [hn] at hE ⊢
  clear hn
  by_cases h1 : 16 < n
  · have h1z : (16 : Int) < (n : Int) := by omega
    rw [if_pos h1]
    go_enter Try.func22, Try.ntmps22
    go_wp2
    go_ret2
    exact ⟨rfl, HB.out⟩
  · have h1z : ¬ (16 : Int) < (n : Int) := by omega
    rw [if_neg h1] at hE ⊢
    cases hb : Plain.badC t with
    | true =>
      rw [hb] at K1
      rw [Bool.true_or, if_pos rfl]
      clear hE hb K2
      go_enter Try.func22, Try.ntmps22
      go_wp2_with fail
      refine K1.mono ?_
      rintro e w' ⟨rfl, rfl⟩
      clear K1
      go_wp2
      go_ret2
      exact ⟨rfl, HB.out⟩
    | false =>
      rw [hb] at K1 hE
      rw [Bool.false_or] at hE ⊢
      cases ha : l.any Plain.badC with
      | false => rw [ha] at hE; exact absurd rfl hE
      | true =>
        rw [ha] at K2
        rw [if_pos rfl]
        clear hE hb ha
        go_enter Try.func22, Try.ntmps22
        go_wp2_with fail
        refine K1.mono ?_
        rintro e w' ⟨rfl, rfl⟩
        clear K1
        go_wp2_with fail
        refine K2.mono ?_
        rintro e w' ⟨rfl, rfl⟩
        clear K2
        go_wp2
        go_ret2
        exact ⟨rfl, HB.out⟩

/-- share.Split at whatever arguments. -/
theorem split_any (v : Value) (l : List Int) (t : Int) (hbig : l.length ≤ 9223372036854775807) (w : World) (h : Seg w v l) (hv : Lies w.heap.size v) :
    Calls Try.prog 22 #[.int .i64 t, v] w fun e w' => ∃ r, e = .returned (.tuple #[r, .int .i64 (Plain.splitE t l : Nat)]) ∧ Seg w' r (Plain.splitV t l) ∧ Lies w'.heap.size r ∧ Below w.heap.size w w' := by
  obtain ⟨p, c, rfl, hp⟩ := seg_wants h hv
  by_cases he : Plain.splitE t l = 0
  · refine (split_ok p l.length c l t he w rfl hp).mono ?_
    rintro e w' ⟨g, rfl, hr, hg, hb⟩
    rw [he, Plain.splitV_ok he]
    have := hr.seg l.length
    rw [Plain.split_len] at this
    exact ⟨_, rfl, this, hr.lies _ _, hb⟩
  · refine (split_err p l.length c l t he w rfl hbig hp).mono ?_
    rintro e w' ⟨rfl, hb⟩
    rw [Plain.splitV_no he]
    exact ⟨_, rfl, Seg.nil _, lies_nil _ _ _, hb⟩
end Go.Proofs.Ytcobehkadhcjiaa.Bo
