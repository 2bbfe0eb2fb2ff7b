/-
  A contract of the document's answer to Live.
-/
import Derived.Test.YthdhcnjebigdfaeDf
import Derived.Test.YthdhcnjebigdfaeRy
namespace Go.Proofs.Ythdhcnjebigdfae
open Go.RowKit

/-- A new block with the cells of one entry. -/
theorem one_cells (w : World) (y : Plain.En) : ∀ j u, (encE y)[j]? = some u → (w.alloc (.cells #[.int .i64 y.key, .int .i64 y.value, .int .i64 y.time, .int .i64 y.who, .bool y.gone] 40)).cell? ((⟨w.heap.size, 0, none⟩ : Addr).add j) = some u := by
  intro j u hj
  rw [add_zero_at]
  match j, hj with
  | 0, hj => injection hj with hj; subst hj; simp
  | 1, hj => injection hj with hj; subst hj; simp
  | 2, hj => injection hj with hj; subst hj; simp
  | 3, hj => injection hj with hj; subst hj; simp
  | 4, hj => injection hj with hj; subst hj; simp
/-- What an append of one entry laid. -/
theorem OwnN.app {w1 : World} {B T : Nat} {v' : Value} {l : List Plain.En} {y : Plain.En} {n : Nat} (hn : n = l.length) (h : w1.ownsRow B T 5 v' (n + 1) (evals l ++ encE y)) : OwnN w1 B T v' (l ++ [y]) := by
  subst hn
  unfold OwnN
  rw [evals_app, List.length_append]
  have e : evals [y] = encE y := by rw [evals_cons]; simp [evals]
  rw [e]
  exact h

namespace Plain
theorem lives_yes {l : List En} {k : Nat} (hk : k < l.length) {y : En} (hy : en l k = y) (hg : y.gone = false) : (l.take (k + 1)).filter lives = (l.take k).filter lives ++ [y] := by
  rw [List.take_succ_eq_append_getElem hk, List.filter_append, ← en_lt hk, hy]
  simp [lives, hg]
theorem lives_no {l : List En} {k : Nat} (hk : k < l.length) {y : En} (hy : en l k = y) (hg : y.gone = true) : (l.take (k + 1)).filter lives = (l.take k).filter lives := by
  rw [List.take_succ_eq_append_getElem hk, List.filter_append, ← en_lt hk, hy]
  simp [lives, hg]
end Plain

set_option maxHeartbeats 4000000 in
set_option maxRecDepth 100000 in
theorem rlive_some (l : List Plain.En) (b off c : Nat) (h8 : l.length ≤ 8) (h0 : 0 < l.length) (hm : Plain.mayL l = true) (w : World) (hb : b < w.heap.size) (hc : CellsN w b off l) :
    Calls Try.prog 21 #[.slice (some ⟨b, off, none⟩) l.length c] w fun e w' => ∃ r, e = .returned (.tuple #[r, .int .i64 0]) ∧ OwnN w' w.heap.size 40 r (l.filter Plain.lives) ∧ Below w.heap.size w w' := by
  have K := rmay_some l b off c h8 h0 w hb hc
  rw [hm] at K
  obtain ⟨i0, hi, hz0, hz1, hz2⟩ := info_parts Try.infoEntry
  have HC := hid hc
  clear hc hm
  go_enter Try.func21, Try.ntmps21
  go_wp2_with (go_at_call 14; refine K.mono ?_; rintro e w1 ⟨rfl, b1⟩)
  have HB1 := hid b1
  clear b1 K
  go_loopw [4, 12] (fun vo i wx => ∃ k : Nat, k ≤ l.length ∧ i = .int .i64 k ∧ OwnN wx w.heap.size 40 vo ((l.take k).filter Plain.lives) ∧ Below w.heap.size w wx) (fun _ i _ => l.length - (intOf i).toNat)
  case atStart => exact ⟨0, Nat.zero_le _, rfl, OwnN.nil _ _ _, HB1.out⟩
  case round =>
    obtain ⟨k, hk, rfl, hO, hbel⟩ := hrel
    by_cases hlt : k < l.length
    · have hlt' : (k : Int) < (l.length : Int) := by omega
      obtain ⟨c0, c1, c2, c3, c4⟩ := (HC.out k hlt).below hbel hb
      have hsz := hbel.size
      have HB := hid hbel
      have H1 := hid (fun y h hg => Plain.lives_yes (l := l) (k := k) (y := y) hlt h hg)
      have H2 := hid (fun y h hg => Plain.lives_no (l := l) (k := k) (y := y) hlt h hg)
      have hle : ((l.take k).filter Plain.lives).length ≤ 8 := Nat.le_trans (List.length_filter_le _ _) (by rw [List.length_take]; omega)
      generalize hF : (l.take k).filter Plain.lives = F at hO H1 H2 hle
      have HO := hid hO
      clear hbel hO hF
      generalize hy : Plain.en l k = y at c0 c1 c2 c3 c4 H1 H2
      obtain ⟨yk, yv, yt, yo, yg⟩ := y
      have HY := hid hy
      clear hy
      dsimp only at c0 c1 c2 c3 c4
      cases yg with
      | true =>
        go_wp2
        go_roundw
        case rel => exact ⟨k + 1, by omega, by go_num, by rw [H2.out _ rfl rfl]; exact HO.out.grow ((Below.refl _ _).alloc (Nat.le_refl _) _), HB.out.alloc HB.out.size _⟩
        case measure => simp [intOf]; omega
      | false =>
        have hown := HO.out.grow (below2 wr (boxE ⟨yk, yv, yt, yo, false⟩) (boxE ⟨yk, yv, yt, yo, false⟩))
        have hnews := one_cells (wr.alloc (boxE ⟨yk, yv, yt, yo, false⟩)) ⟨yk, yv, yt, yo, false⟩
        have HW := hid hown
        have HNW := hid hnews
        clear hown hnews
        generalize hn : F.length = n at hle
        have HN := hid hn
        clear hn
        go_wp2_with (first
          | (at_builtin; refine wpList_append_own _ rfl _ _ 37 rfl w.heap.size 40 i0 _ 5 40 Try.underlying37 hi hz0 hz1 hz2 rfl (by decide) _ n (evals F) rfl ?c0 ⟨wr.heap.size + 1, 0, none⟩ 1 1 (encE ⟨yk, yv, yt, yo, false⟩) rfl rfl ?c1 ?c2 ?c3 ?c4 ?c5 ?_)
          | fail)
        case c0 => rw [← HN.out]; exact HW.out
        case c1 => exact fun j u hj => by have := HNW.out j u hj; rwa [show (wr.alloc (boxE ⟨yk, yv, yt, yo, false⟩)).heap.size = wr.heap.size + 1 by simp] at this
        case c2 => exact encE_one _
        case c3 => unfold maxLen; omega
        case c4 => omega
        case c5 => first | omega | (simp; omega)
        intro v' w2 hown' hgrow _
        have R := hid (OwnN.app HN.out.symm hown')
        have RB := hid (show Below w.heap.size w w2 from (HB.out.trans ((below2 wr (boxE ⟨yk, yv, yt, yo, false⟩) (boxE ⟨yk, yv, yt, yo, false⟩)).mono hsz)).grown hgrow (by simp; omega) (fun j hj => by
          rcases HO.out.2 with ⟨e, _⟩ | ⟨g, cap, cur, e, hg, _⟩
          · rw [e] at hj; simp [Value.ownBlock] at hj
          · rw [e] at hj; simp [Value.ownBlock] at hj; omega))
        clear hown' hgrow
        go_wp2
        go_roundw
        case rel => exact ⟨k + 1, by omega, by go_num, by rw [H1.out _ rfl rfl]; exact R.out, RB.out⟩
        case measure => simp [intOf]; omega
    · have ek : k = l.length := by omega
      subst ek
      rw [List.take_length] at hO
      have HO := hid hO
      have HB := hid hbel
      clear hO hbel
      go_wp2
      go_ret2
      exact ⟨_, rfl, HO.out, HB.out⟩

set_option maxHeartbeats 1000000 in
theorem rlive_bad (v : Value) (l : List Plain.En) (hm : Plain.mayL l = false) (w : World) (hs : SegN w v l) (hy : Lies w.heap.size v) :
    Calls Try.prog 21 #[v] w fun e w' => e = .returned (.tuple #[.slice none 0 0, .int .i64 4]) ∧ Below w.heap.size w w' := by
  have K := rmay_any v l w hs hy
  rw [hm] at K
  clear hs hm
  go_enter Try.func21, Try.ntmps21
  go_wp2_with (go_at_call 14; refine K.mono ?_; rintro e w1 ⟨rfl, b1⟩)
  go_ret2
  exact ⟨rfl, b1⟩
set_option maxHeartbeats 1000000 in
theorem rlive_nil (p : Option Addr) (c : Nat) (w : World) :
    Calls Try.prog 21 #[.slice p 0 c] w fun e w' => e = .returned (.tuple #[.slice none 0 0, .int .i64 0]) ∧ w' = w := by
  have K := rmay_nil p c w
  go_enter Try.func21, Try.ntmps21
  go_wp2_with (go_at_call 14; refine K.mono ?_; rintro e w1 ⟨rfl, rfl⟩)
  refine wp_loop_rounds 1 ?_
  rw [rounds_succ]
  go_wp2
  go_ret2
  exact ⟨rfl, rfl⟩

theorem rlive_any (v : Value) (l : List Plain.En) (w : World) (hs : SegN w v l) (hy : Lies w.heap.size v) :
    Calls Try.prog 21 #[v] w fun e w' => ∃ r, e = .returned (.tuple #[r, .int .i64 (Plain.liveE l : Nat)]) ∧ SegN w' r (Plain.liveR l) ∧ Lies w'.heap.size r ∧ Below w.heap.size w w' := by
  unfold Plain.liveE Plain.liveR
  cases hm : Plain.mayL l with
  | false => exact (rlive_bad v l hm w hs hy).mono fun e w' ⟨h1, h2⟩ => ⟨_, h1, SegN.nil _, lies_nil _ _ _, h2⟩
  | true =>
    have h8 : l.length ≤ 8 := ((Plain.may_iff l).1 hm).1
    by_cases h0 : 0 < l.length
    · obtain ⟨b, off, c, rfl, _, hc⟩ := hs.some h0
      exact (rlive_some l b off c h8 h0 hm w (hy ⟨b, off, none⟩ _ _ rfl h0) hc).mono fun e w' ⟨r, h1, h2, h3⟩ => ⟨r, h1, h2.seg.1, h2.seg.2, h3⟩
    · obtain rfl : l = [] := List.length_eq_zero_iff.1 (by omega)
      obtain ⟨p, c, rfl, _⟩ := hs.form
      exact (rlive_nil p c w).mono fun e w' ⟨h1, h2⟩ => ⟨_, h1, SegN.nil _, lies_nil _ _ _, by rw [h2]; exact Below.refl _ _⟩
end Go.Proofs.Ythdhcnjebigdfae
