/-
  view: fresh, see.
-/
import Derived.Test.YtlmiomfbpeondanTv
import Derived.Deep.RegionHeld3
import Derived.Deep.DeepCutAuto
namespace Go.Proofs.Ytlmiomfbpeondan.Vi
open Go.RowKit Go.Shelf

set_option maxHeartbeats 400000 in
theorem freshV_c (p : Option Addr) (c : Nat) (q : List Ev) (w : World) (hq : encV.Holds w p q) (hnil : p = none → c = 0) (hb : q.length * 32 ≤ 140737488355328) :
    Calls Try.prog 22 #[.slice p q.length c] w fun e w' => ∃ p' c', e = .returned (.slice p' q.length c') ∧ Sl encV w' p' c' q ∧ Below w.heap.size w w' := by
  obtain ⟨p', c', w', hr, hs, hw⟩ := appV hq hnil hb
  have RUN := hid hr
  have HS := hid hs
  have HB := hid hw
  clear hr hs hw hq hb hnil
  generalize q.length = n at RUN
  go_enter Try.func22, Try.ntmps22
  go_wp2_with (first | (at_builtin; refine wpList_app _ _ 38 RUN.out (by rfl) (by rfl) (by rfl) (by rfl) (by rfl) ?_) | fail)
  go_ret
  exact ⟨_, _, rfl, HS.out, HB.out⟩
set_option maxHeartbeats 400000 in
theorem freshI_c (p : Option Addr) (c : Nat) (q : List Int) (w : World) (hq : encI.Holds w p q) (hnil : p = none → c = 0) (hb : q.length * 8 ≤ 140737488355328) :
    Calls Try.prog 23 #[.slice p q.length c] w fun e w' => ∃ p' c', e = .returned (.slice p' q.length c') ∧ Sl encI w' p' c' q ∧ Below w.heap.size w w' := by
  obtain ⟨p', c', w', hr, hs, hw⟩ := appI hq hnil hb
  have RUN := hid hr
  have HS := hid hs
  have HB := hid hw
  clear hr hs hw hq hb hnil
  generalize q.length = n at RUN
  go_enter Try.func23, Try.ntmps23
  go_wp2_with (first | (at_builtin; refine wpList_app _ _ 22 RUN.out (by rfl) (by rfl) (by rfl) (by rfl) (by rfl) ?_) | fail)
  go_ret
  exact ⟨_, _, rfl, HS.out, HB.out⟩
set_option maxHeartbeats 400000 in
theorem freshB_c (p : Option Addr) (c : Nat) (q : List Int) (w : World) (hq : encB.Holds w p q) (hnil : p = none → c = 0) (hb : q.length ≤ 140737488355328) :
    Calls Try.prog 24 #[.slice p q.length c] w fun e w' => ∃ p' c', e = .returned (.slice p' q.length c') ∧ Sl encB w' p' c' q ∧ Below w.heap.size w w' := by
  obtain ⟨p', c', w', hr, hs, hw⟩ := appB hq hnil hb
  have RUN := hid hr
  have HS := hid hs
  have HB := hid hw
  clear hr hs hw hq hb hnil
  generalize q.length = n at RUN
  go_enter Try.func24, Try.ntmps24
  go_wp2_with (first | (at_builtin; refine wpList_app _ _ 39 RUN.out (by rfl) (by rfl) (by rfl) (by rfl) (by rfl) ?_) | fail)
  go_ret
  exact ⟨_, _, rfl, HS.out, HB.out⟩
end Go.Proofs.Ytlmiomfbpeondan.Vi
