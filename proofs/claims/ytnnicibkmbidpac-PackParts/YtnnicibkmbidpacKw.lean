/-
  Contracts of Picked, Widths and FieldsOf.
-/
import Derived.Test.YtnnicibkmbidpacUnpack
import Derived.Test.YtnnicibkmbidpacRPack
namespace Go.Proofs.Ytnnicibkmbidpac
open Go.RowKit

namespace Plain
theorem tmod_bd (a n : Int) (hn : 0 < n) : -n < a.tmod n ∧ a.tmod n < n := by
  have h1 := Int.tmod_lt_of_pos a hn
  have h2 := Int.tmod_lt_of_pos (-a) hn
  rw [Int.neg_tmod] at h2
  omega
theorem pick_neg (a n : Int) (hn : 0 < n) (h : a.tmod n < 0) : a.tmod n + n = a % n := by
  have e := Int.tmod_add_mul_tdiv a n
  have hb := tmod_bd a n hn
  have e2 : a = (a.tmod n + n) + n * (a.tdiv n - 1) := by rw [Int.mul_sub, Int.mul_one]; omega
  have h3 : a % n = (a.tmod n + n) % n := by
    conv => lhs; rw [e2]
    exact Int.add_mul_emod_self_left _ _ _
  rw [h3, Int.emod_eq_of_lt (by omega) (by omega)]
theorem pick_pos (a n : Int) (hn : 0 < n) (h : ¬ a.tmod n < 0) : a.tmod n = a % n := by
  have e := Int.tmod_add_mul_tdiv a n
  have hb := tmod_bd a n hn
  have h3 : a % n = (a.tmod n) % n := by
    conv => lhs; rw [← e]
    exact Int.add_mul_emod_self_left _ _ _
  rw [h3, Int.emod_eq_of_lt (by omega) (by omega)]

/-- The widths that Widths makes of numbers. -/
def wlist (l : List Int) : List Int := (l.take 20).map (fun x => 1 + x % 60)
theorem wlist_len (l : List Int) : (wlist l).length ≤ 20 := by simp [wlist]; omega
theorem wlist_ok (l : List Int) : (wlist l).all okW = true := by
  rw [List.all_eq_true]
  intro x hx
  obtain ⟨y, _, rfl⟩ := List.mem_map.1 hx
  rw [okW_iff]
  omega
/-- The fields that FieldsOf makes of widths and numbers. -/
def fval (w : Int) (vs : List Int) (i : Nat) : Int := if i < vs.length then vs.getD i 0 % 2 ^ w.toNat else 0
def flist (ws vs : List Int) (k : Nat) : List (Int × Int) := (List.range k).map (fun i => (ws.getD i 0, fval (ws.getD i 0) vs i))
theorem flist_len (ws vs : List Int) (k : Nat) : (flist ws vs k).length = k := by simp [flist]
theorem flist_succ (ws vs : List Int) (k : Nat) : flist ws vs (k + 1) = flist ws vs k ++ [(ws.getD k 0, fval (ws.getD k 0) vs k)] := by simp [flist, List.range_succ]
theorem flist_fst (ws vs : List Int) : (flist ws vs ws.length).map Prod.fst = ws := by
  apply List.ext_getElem
  · simp [flist]
  · intro j h1 h2
    simp [flist, h2]
theorem fval_bd (w : Int) (vs : List Int) (i : Nat) : 0 ≤ fval w vs i ∧ fval w vs i < 2 ^ w.toNat := by
  have hp : (0 : Int) < 2 ^ w.toNat := by
    have : ((2 : Int) ^ w.toNat) = ((2 ^ w.toNat : Nat) : Int) := by simp
    rw [this]; have := Nat.two_pow_pos w.toNat; omega
  unfold fval
  split
  · exact ⟨Int.emod_nonneg _ (by omega), Int.emod_lt_of_pos _ hp⟩
  · exact ⟨by omega, hp⟩
theorem flist_fit (ws vs : List Int) (k : Nat) : (flist ws vs k).all fitB = true := by
  rw [List.all_eq_true]
  intro f hf
  simp only [flist, List.mem_map, List.mem_range] at hf
  obtain ⟨j, _, rfl⟩ := hf
  have := fval_bd (ws.getD j 0) vs j
  unfold fitB
  simp only [Bool.and_eq_true, decide_eq_true_eq]
  exact this
end Plain

set_option maxHeartbeats 400000 in
theorem picked_any (a n : Int) (_h1 : -9223372036854775808 ≤ a) (_h2 : a ≤ 9223372036854775807) (hn : 0 < n) (hn2 : n ≤ 1152921504606846976) (w : World) :
    Calls Try.prog 21 #[.int .i64 a, .int .i64 n] w fun e w' => e = .returned (.int .i64 (a % n)) ∧ w' = w := by
  have hb := Plain.tmod_bd a n hn
  by_cases h : a.tmod n < 0
  · have H := hid (Plain.pick_neg a n hn h)
    go_enter Try.func21, Try.ntmps21
    go_wp2
    go_ret
    exact ⟨by rw [← H.out]; rfl, rfl⟩
  · have H := hid (Plain.pick_pos a n hn h)
    go_enter Try.func21, Try.ntmps21
    go_wp2
    go_ret
    exact ⟨by rw [← H.out]; rfl, rfl⟩

/-- Numbers, as values. -/
def ivals (l : List Int) : List Value := l.map (Value.int .i64)
theorem ivals_snoc (l : List Int) (x : Int) : ivals (l ++ [x]) = ivals l ++ [.int .i64 x] := by simp [ivals]
theorem seg_ivals {w : World} {base : Nat} {v : Value} {l : List Int} (h : w.ownsRow base 3 1 v l.length (ivals l)) : Seg w v l := seg_of_owns h rfl rfl

theorem wlist_step (l : List Int) (k : Nat) (h : k < l.length) (h2 : k < 20) : Plain.wlist (l.take (k + 1)) = Plain.wlist (l.take k) ++ [1 + l.getD k 0 % 60] := by
  unfold Plain.wlist
  rw [List.take_take, List.take_take, show min 20 (k + 1) = k + 1 by omega, show min 20 k = k by omega, List.take_succ_eq_append_getElem h, List.map_append]
  simp [h]
theorem wlist_take (l : List Int) (k : Nat) (h : l.length ≤ k ∨ 20 ≤ k) : Plain.wlist (l.take k) = Plain.wlist l := by
  unfold Plain.wlist
  rcases h with h | h
  · rw [List.take_of_length_le h]
  · rw [List.take_take, show min 20 k = 20 by omega]

set_option maxHeartbeats 1000000 in
set_option maxRecDepth 100000 in
theorem kwidths_some (b off cap : Nat) (l : List Int) (hr : ∀ n ∈ l, (Lit.int .i64 n).wf = true) (hl : l.length ≤ 9223372036854775807) (w : World)
    (h : ∀ j, j < l.length → w.cell? ⟨b, off + j, none⟩ = some (.int .i64 (l.getD j 0))) (hb : 0 < l.length → b < w.heap.size) :
    Calls Try.prog 12 #[.slice (some ⟨b, off, none⟩) l.length cap] w fun e w' => ∃ r, e = .returned r ∧ w'.ownsRow w.heap.size 3 1 r (Plain.wlist l).length (ivals (Plain.wlist l)) ∧ Below w.heap.size w w' := by
  obtain ⟨i0, hi, hz0, hz1, hz2⟩ := info_parts Try.infoInt
  have H := hid h
  have HR := hid hr
  clear h hr
  go_enter Try.func12, Try.ntmps12
  go_wp2
  go_loopw [3, 4] (fun v i wr => ∃ k : Nat, k ≤ l.length ∧ k ≤ 20 ∧ i = .int .i64 k ∧ wr.ownsRow w.heap.size 3 1 v k (ivals (Plain.wlist (l.take k))) ∧ Below w.heap.size w wr)
    (fun _ i _ => 20 - (intOf i).toNat)
  case atStart => exact ⟨0, Nat.zero_le _, by omega, rfl, World.ownsRow_nil _ _ _ _, Below.refl _ _⟩
  case round =>
    obtain ⟨k, hk, hk2, rfl, hown, hbel⟩ := hrel
    have hge := hbel.size
    by_cases hlt : k < l.length ∧ k < 20
    · obtain ⟨hlt1, hlt2⟩ := hlt
      have g := (hbel.cell (p := ⟨b, off + k, none⟩) (hb (by omega))).trans (H.out k hlt1)
      have hx := HR.out (l.getD k 0) (by rw [List.getD_eq_getElem?_getD, List.getElem?_eq_getElem hlt1]; exact List.getElem_mem hlt1)
      have hst := hid (wlist_step l k hlt1 hlt2)
      have hx2 := bounds_i64 hx
      clear hx
      generalize hxx : l.getD k 0 = x at g hx2 hst
      clear hxx
      obtain ⟨hx3, hx4⟩ := hx2
      have hlt' : (k : Int) < (l.length : Int) := by omega
      have hm0 : 0 ≤ x % 60 := by omega
      have hm1 : x % 60 < 60 := by omega
      go_wp2_with fail
      refine (picked_any x 60 hx3 hx4 (by omega) (by omega) _).mono ?_
      rintro e wx ⟨rfl, hx⟩
      have hy := hx.symm
      clear hx
      subst hy
      generalize x % 60 = y at hm0 hm1 hst
      go_wp2_with (first
        | (at_builtin; refine wpList_append_own _ rfl _ _ 22 rfl w.heap.size 3 i0 (.int .i64 0) 1 8 Try.underlying22 hi hz0 hz1 hz2 rfl (by decide) _ _ _ rfl (hown.alloc _) ⟨wr.heap.size, 0, none⟩ 1 1 [.int .i64 (1 + y)] rfl rfl ?c1 ?c2 ?c3 ?c4 ?c5 ?_)
        | go_in)
      case c1 =>
        intro j u hj
        match j, hj with
        | 0, hj => simp at hj; subst hj; simp [Addr.add]
      case c2 => first | rfl | (intro u hu; simp at hu; subst hu; rfl)
      case c3 => unfold maxLen; omega
      case c4 => omega
      case c5 => simp; omega
      intro v' w1 hown' hgrow _
      have R := hid (show w1.ownsRow w.heap.size 3 1 v' (k + 1) (ivals (Plain.wlist (l.take (k + 1)))) ∧ Below w.heap.size w w1 from ⟨by rw [hst.out, ivals_snoc]; exact hown', below_app (hbel.alloc hge _) hgrow hown⟩)
      clear hown' hgrow hown hbel
      go_wp2
      go_roundw
      case rel => first | exact ⟨k + 1, by omega, by omega, by go_num, R.out.1, R.out.2⟩ | ((repeat apply Exists.intro); exact ⟨⟨k + 1, by omega, by omega, by go_num, R.out.1, R.out.2⟩, rfl⟩)
      case measure => simp [intOf]; omega
    · have HO := hid hown
      have HB := hid hbel
      have hfin := hid (wlist_take l k (by omega))
      have hlen := hid (show (Plain.wlist l).length = k by
        rw [← hfin.out]; simp [Plain.wlist]; omega)
      clear hown hbel
      by_cases hlt1 : k < l.length
      · have h20 : k = 20 := by omega
        subst h20
        clear hlt
        go_wp2
        go_ret
        exact ⟨_, rfl, by rw [hlen.out, ← hfin.out]; exact HO.out, HB.out⟩
      · clear hlt
        have hlt1' : ¬ (k : Int) < (l.length : Int) := by omega
        go_wp2
        go_ret
        exact ⟨_, rfl, by rw [hlen.out, ← hfin.out]; exact HO.out, HB.out⟩

set_option maxHeartbeats 400000 in
theorem kwidths_nil (p : Option Addr) (cap : Nat) (w : World) :
    Calls Try.prog 12 #[.slice p 0 cap] w fun e w' => e = .returned (.slice none 0 0) ∧ w' = w := by
  go_enter Try.func12, Try.ntmps12
  go_wp2
  refine wp_loop_rounds 1 ?_
  rw [rounds_succ]
  go_wp2
  go_ret
  exact ⟨rfl, rfl⟩

/-- Widths at whatever numbers. -/
theorem kwidths_any (v : Value) (l : List Int) (hr : ∀ n ∈ l, (Lit.int .i64 n).wf = true) (hl : l.length ≤ 9223372036854775807) (w : World) (h : Seg w v l) (hv : Lies w.heap.size v) :
    Calls Try.prog 12 #[v] w fun e w' => ∃ r, e = .returned r ∧ w'.ownsRow w.heap.size 3 1 r (Plain.wlist l).length (ivals (Plain.wlist l)) ∧ Below w.heap.size w w' := by
  rcases h with ⟨rfl, p, c, rfl⟩ | ⟨b, o, c, rfl, g⟩
  · refine (kwidths_nil p c w).mono ?_
    rintro e w' ⟨rfl, rfl⟩
    exact ⟨_, rfl, World.ownsRow_nil _ _ _ _, Below.refl _ _⟩
  · exact kwidths_some b o c l hr hl w g (fun hp => hv _ _ _ rfl hp)
end Go.Proofs.Ytnnicibkmbidpac
