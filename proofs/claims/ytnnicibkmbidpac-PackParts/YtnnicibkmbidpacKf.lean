/-
  A contract of FieldsOf.
-/
import Derived.Test.YtnnicibkmbidpacKw
import Derived.Test.YtnnicibkmbidpacRUnpack
namespace Go.Proofs.Ytnnicibkmbidpac
open Go.RowKit

theorem fval_yes (x : Int) (vs : List Int) (k : Nat) (h : k < vs.length) : Plain.fval x vs k = vs.getD k 0 % 2 ^ x.toNat := by unfold Plain.fval; rw [if_pos h]
theorem fval_no (x : Int) (vs : List Int) (k : Nat) (h : ¬ k < vs.length) : Plain.fval x vs k = 0 := by unfold Plain.fval; rw [if_neg h]

theorem news2 (wr : World) (A : Obj) (cs : Array Value) (t : Nat) : ∀ j u, cs.toList[j]? = some u → (((wr.alloc A).alloc (.cells cs t)).drew).cell? ((⟨wr.heap.size + 1, 0, none⟩ : Addr).add j) = some u := by
  refine World.news_of_block (t := t) (fr := (0, 0)) ?_
  show ((wr.alloc A).alloc (.cells cs t)).heap[wr.heap.size + 1]? = _
  have e : (wr.alloc A).heap.size = wr.heap.size + 1 := by simp
  rw [← e]
  exact heap_alloc_new _ _

set_option maxHeartbeats 2000000 in
set_option maxRecDepth 100000 in
theorem kfields_some (b off cap : Nat) (ws vs : List Int) (v : Value) (hok : ws.all Plain.okW = true) (hlen : ws.length ≤ 1000) (hr : ∀ n ∈ vs, (Lit.int .i64 n).wf = true) (hvl : vs.length ≤ 9223372036854775807) (w : World)
    (h : ∀ j, j < ws.length → w.cell? ⟨b, off + j, none⟩ = some (.int .i64 (ws.getD j 0))) (hb : 0 < ws.length → b < w.heap.size) (h2 : Seg w v vs) (hv : Lies w.heap.size v) :
    Calls Try.prog 13 #[.slice (some ⟨b, off, none⟩) ws.length cap, v] w fun e w' => ∃ r, e = .returned r ∧ w'.ownsRow w.heap.size 35 2 r ws.length (lvals (Plain.flist ws vs ws.length)) ∧ Below w.heap.size w w' := by
  obtain ⟨j0, ji, jz0, jz1, jz2⟩ := info_parts Try.infoField
  obtain ⟨pv, cv, rfl⟩ := seg_form h2
  have H := hid h
  have HR := hid hr
  have HOK := hid hok
  have H2 := hid h2
  have HV := hid hv
  clear h hr hok h2 hv
  go_enter Try.func13, Try.ntmps13
  go_wp2
  go_loopw [5, 6] (fun f i wr => ∃ k : Nat, k ≤ ws.length ∧ i = .int .i64 k ∧ wr.ownsRow w.heap.size 35 2 f k (lvals (Plain.flist ws vs k)) ∧ Below w.heap.size w wr)
    (fun _ i _ => ws.length - (intOf i).toNat)
  case atStart => exact ⟨0, Nat.zero_le _, rfl, World.ownsRow_nil _ _ _ _, Below.refl _ _⟩
  case round =>
    obtain ⟨k, hk, rfl, fown, hbel⟩ := hrel
    have hge := hbel.size
    by_cases hlt : k < ws.length
    · have g := (hbel.cell (p := ⟨b, off + k, none⟩) (hb (by omega))).trans (H.out k hlt)
      have hok := Plain.un_okw ws k hlt HOK.out
      have hfs := hid (Plain.flist_succ ws vs k)
      have hlt' : (k : Int) < (ws.length : Int) := by omega
      have hbb : b < wr.heap.size := by have := hb (by omega); omega
      generalize hxx : ws.getD k 0 = x at g hok hfs
      obtain ⟨xn, rfl⟩ := Int.eq_ofNat_of_zero_le (show 0 ≤ x by omega)
      have hxn : xn ≤ 60 := by omega
      clear hok hxx
      have hp60 := Plain.pow60 xn hxn
      by_cases hlv : k < vs.length
      · have hfv := hid (fval_yes (xn : Int) vs k hlv)
        rw [Int.toNat_natCast] at hfv
        obtain ⟨bv, ov, rfl, gv, hbv⟩ : ∃ bv ov, pv = some ⟨bv, ov, none⟩ ∧ wr.cell? ⟨bv, ov + k, none⟩ = some (.int .i64 (vs.getD k 0)) ∧ bv < w.heap.size := by
          rcases H2.out with ⟨e, _⟩ | ⟨bv, ov, cv', e, gv⟩
          · subst e; simp at hlv
          · injection e with e1 _ _
            subst e1
            have hbv := HV.out _ _ _ rfl (by omega)
            exact ⟨bv, ov, rfl, (hbel.cell (p := ⟨bv, ov + k, none⟩) hbv).trans (gv k hlv), hbv⟩
        have hvw := bounds_i64 (HR.out (vs.getD k 0) (by rw [List.getD_eq_getElem?_getD, List.getElem?_eq_getElem hlv]; exact List.getElem_mem hlv))
        generalize vs.getD k 0 = y at gv hvw hfv
        have hlv' : (k : Int) < (vs.length : Int) := by omega
        obtain ⟨P, hP⟩ : ∃ P : Nat, P = 2 ^ xn := ⟨_, rfl⟩
        have hPi : ((2 : Int) ^ xn) = (P : Int) := by rw [hP]; simp
        rw [← hP] at hp60
        have hP0 : 0 < P := by rw [hP]; exact Nat.two_pow_pos xn
        rw [hPi] at hfv
        have q1 : IntKind.i64.wrap ((2 : Int) ^ xn) = (P : Int) := by rw [hPi]; exact Plain.wrap_nat P (by omega)
        have hk0 : (0 : Int) ≤ (k : Int) := by omega
        have hbv2 : bv < wr.heap.size := by omega
        clear hP hPi
        go_wp2
        go_region_held3 (fun w' => w'.cell? ⟨b, off + k, none⟩ = some (.int .i64 xn) ∧ w'.cell? ⟨bv, ov + k, none⟩ = some (.int .i64 y) ∧ w'.frozen? ⟨wr.heap.size, 1, none⟩ = false) (go_keep)
          ((go_at_call 21; refine (picked_any y (P : Int) hvw.1 hvw.2 (by omega) (by omega) _).mono ?_; rintro e w' ⟨rfl, rfl⟩))
        generalize y % (P : Int) = z at hfv
        clear q1
        go_wp2_with (first
          | (at_builtin; refine wpList_append_own _ rfl _ _ 30 rfl w.heap.size 35 j0 (.agg #[.int .i64 0, .int .i64 0]) 2 16 Try.underlying30 ji jz0 jz1 jz2 rfl (by decide) _ _ _ rfl (((fown.alloc _).alloc _).drew) ⟨wr.heap.size + 1, 0, none⟩ 1 1 [.int .i64 xn, .int .i64 z] rfl rfl ?c1 ?c2 ?c3 ?c4 ?c5 ?_)
          | go_in)
        case c1 => exact news2 wr _ #[.int .i64 xn, .int .i64 z] 35
        case c2 => first | rfl | (intro u hu; simp at hu; rcases hu with rfl | rfl <;> rfl)
        case c3 => unfold maxLen; omega
        case c4 => omega
        case c5 => simp; omega
        intro v1 w1 fown' fgrow _
        have R := hid (show w1.ownsRow w.heap.size 35 2 v1 (k + 1) (lvals (Plain.flist ws vs (k + 1))) ∧ Below w.heap.size w w1 from
          ⟨by rw [hfs.out, lvals_snoc, hfv.out]; exact fown', below_app2 (((hbel.alloc hge _).alloc (by simp; omega) _).drew) fgrow fown⟩)
        clear fown' fgrow fown hbel
        go_wp2
        go_roundw
        case rel => first | exact ⟨k + 1, by omega, by go_num, R.out.1, R.out.2⟩ | ((repeat apply Exists.intro); exact ⟨⟨k + 1, by omega, by go_num, R.out.1, R.out.2⟩, rfl⟩)
        case measure => simp [intOf]; omega
      · have hfv := hid (fval_no (xn : Int) vs k hlv)
        have hlv' : ¬ (k : Int) < (vs.length : Int) := by omega
        go_wp2_with (first
          | (at_builtin; refine wpList_append_own _ rfl _ _ 30 rfl w.heap.size 35 j0 (.agg #[.int .i64 0, .int .i64 0]) 2 16 Try.underlying30 ji jz0 jz1 jz2 rfl (by decide) _ _ _ rfl ((fown.alloc _).alloc _) ⟨wr.heap.size + 1, 0, none⟩ 1 1 [.int .i64 xn, .int .i64 0] rfl rfl ?d1 ?d2 ?d3 ?d4 ?d5 ?_)
          | go_in)
        case d2 => first | rfl | exact ⟨rfl, rfl⟩
        case d3 => unfold maxLen; omega
        case d4 => omega
        case d5 => omega
        intro v1 w1 fown' fgrow _
        have R := hid (show w1.ownsRow w.heap.size 35 2 v1 (k + 1) (lvals (Plain.flist ws vs (k + 1))) ∧ Below w.heap.size w w1 from
          ⟨by rw [hfs.out, lvals_snoc, hfv.out]; exact fown', below_app2 ((hbel.alloc hge _).alloc (by simp; omega) _) fgrow fown⟩)
        clear fown' fgrow fown hbel
        go_wp2
        go_roundw
        case rel => first | exact ⟨k + 1, by omega, by go_num, R.out.1, R.out.2⟩ | ((repeat apply Exists.intro); exact ⟨⟨k + 1, by omega, by go_num, R.out.1, R.out.2⟩, rfl⟩)
        case measure => simp [intOf]; omega
    · have ek : k = ws.length := by omega
      subst ek
      have FO := hid fown
      have HB := hid hbel
      clear fown hbel
      go_wp2
      go_ret
      exact ⟨_, rfl, FO.out, HB.out⟩

set_option maxHeartbeats 400000 in
theorem kfields_nil (p : Option Addr) (cap : Nat) (v : Value) (w : World) :
    Calls Try.prog 13 #[.slice p 0 cap, v] w fun e w' => e = .returned (.slice none 0 0) ∧ w' = w := by
  go_enter Try.func13, Try.ntmps13
  go_wp2
  refine wp_loop_rounds 1 ?_
  rw [rounds_succ]
  go_wp2
  go_ret
  exact ⟨rfl, rfl⟩

/-- FieldsOf at whatever widths that may be, and whatever numbers. -/
theorem kfields_any (u v : Value) (ws vs : List Int) (hok : ws.all Plain.okW = true) (hlen : ws.length ≤ 1000) (hr : ∀ n ∈ vs, (Lit.int .i64 n).wf = true) (hvl : vs.length ≤ 9223372036854775807) (w : World)
    (h : Seg w u ws) (hu : Lies w.heap.size u) (h2 : Seg w v vs) (hv : Lies w.heap.size v) :
    Calls Try.prog 13 #[u, v] w fun e w' => ∃ r, e = .returned r ∧ w'.ownsRow w.heap.size 35 2 r ws.length (lvals (Plain.flist ws vs ws.length)) ∧ Below w.heap.size w w' := by
  rcases h with ⟨rfl, p, c, rfl⟩ | ⟨b, o, c, rfl, g⟩
  · refine (kfields_nil p c v w).mono ?_
    rintro e w' ⟨rfl, rfl⟩
    exact ⟨_, rfl, World.ownsRow_nil _ _ _ _, Below.refl _ _⟩
  · exact kfields_some b o c ws vs v hok hlen hr hvl w g (fun hp => hu _ _ _ rfl hp) h2 hv
end Go.Proofs.Ytnnicibkmbidpac
