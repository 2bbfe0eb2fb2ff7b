/-
  The document's gossipTurn: what is refused; Write.
-/
import Derived.Test.YtdcgkeanghhopakRs3
namespace Go.Proofs.Ytdcgkeanghhopak
open Go.RowKit Go.Shelf Go.Sort

set_option maxHeartbeats 400000 in
theorem rreads_c (s k : Nat) (hs : s < 256) (hk : k < 8) (w : World) :
    Calls Try.prog 36 #[.int .i64 s, .int .i64 k] w fun e w' => e = .returned (.bool (Plain.reads (s : Int) k)) ∧ w' = w := by
  have e1 : (bits .and .i64 ((s : Int) / 2 ^ k) 1 == 1) = (s / 2 ^ k % 2 == 1) := LabP.reads_eq s k hs
  have e2 : Plain.reads (s : Int) k = (s / 2 ^ k % 2 == 1) := by unfold Plain.reads; rw [Int.toNat_natCast]
  rw [e2]
  clear e2
  go_enter Try.func36, Try.ntmps36
  go_wp2
  go_ret
  exact ⟨rfl, rfl⟩
/-- What a turn comes to at the shelves. -/
def TuP (B S HO IO : Nat) (hb ib : Nat → Nat) (w0 : World) (lp : Option Addr) (lc n m hc ic : Nat) (L : List Int) (f : Plain.Shv) (t : Plain.Tu) (w : World) (e : Ending) (w' : World) : Prop :=
  ∃ f' : Plain.Shv, e = .returned (.int .i64 (Plain.tuE n L f.st t : Nat)) ∧ ShI B S HO IO hb ib w0 w' lp lc n m hc ic f' ∧ f'.Ok ∧ f'.st = Plain.tuS n L f.st t ∧ Un (isS hb ib n) w w'
theorem tuP_no {B S HO IO : Nat} {hb ib : Nat → Nat} {w0 : World} {lp : Option Addr} {lc n m hc ic : Nat} {L : List Int} {f : Plain.Shv} {t : Plain.Tu} {w w' : World} {E : Nat} (hE : Plain.tuE n L f.st t = E) (h0 : E ≠ 0) (hB : B ≤ w.heap.size) (I : ShI B S HO IO hb ib w0 w lp lc n m hc ic f) (ok : f.Ok) (b : Below w.heap.size w w') :
    TuP B S HO IO hb ib w0 lp lc n m hc ic L f t w (.returned (.int .i64 (E : Nat))) w' := by
  refine ⟨f, by rw [hE], I.grow hB b, ok, ?_, Un.of_below b⟩
  unfold Plain.tuS
  rw [if_pos (by rw [hE]; exact h0)]
/-- What is written, in the shelves. -/
theorem tuP_set {B S HO IO : Nat} {hb ib : Nat → Nat} {w0 : World} {lp : Option Addr} {lc n m hc ic : Nat} {L : List Int} {f : Plain.Shv} {w W w' : World} {kd tz va : Int} {i j k : Nat} (ok : f.Ok) (hw : Plain.Wr n L f.st ⟨kd, (i : Int), tz, (j : Int), (k : Int), va⟩) (b : Below w.heap.size w W)
    (h : ShI B S HO IO hb ib w0 w' lp lc n m hc ic (f.upd i j k ⟨(k : Int), if kd = 1 then va else 0, Plain.maxA (f i j) 8 + 1, (i : Int), decide (kd = 2)⟩)) (u : Un (isS hb ib n) W w') :
    TuP B S HO IO hb ib w0 lp lc n m hc ic L f ⟨kd, (i : Int), tz, (j : Int), (k : Int), va⟩ w (.returned (.int .i64 (0 : Nat))) w' := by
  have hk := hw.ke
  dsimp only at hk
  have hE := Plain.write_ok hw
  have eM : Plain.maxA (f i j) 8 = Plain.maxT (f.st i j) := (Plain.maxA_list (f i j) 8).symm
  have hkd := hw.kd
  dsimp only at hkd
  have eS : Plain.tuS n L f.st ⟨kd, (i : Int), tz, (j : Int), (k : Int), va⟩ = Plain.writeS f.st ⟨kd, (i : Int), tz, (j : Int), (k : Int), va⟩ := by
    unfold Plain.tuS
    rw [hE, if_neg (by decide), if_neg (by show ¬ kd = 3; omega)]
  refine ⟨_, by rw [hE], h, ok.upd i j k _ rfl (by omega), ?_, (Un.of_below b).trans u⟩
  rw [eS]
  funext a c
  by_cases hh : a = i ∧ c = j
  · have eW : Plain.writeS f.st ⟨kd, (i : Int), tz, (j : Int), (k : Int), va⟩ a c = Plain.put (f.st a c) (Plain.entF (f.st a c) ⟨kd, (i : Int), tz, (j : Int), (k : Int), va⟩) := by
      unfold Plain.writeS
      rw [if_pos (by simpa using hh)]
    rw [eW, hh.1, hh.2]
    have e := Plain.upd_put ok (i := i) (j := j) (k := k) (e := ⟨(k : Int), if kd = 1 then va else 0, Plain.maxA (f i j) 8 + 1, (i : Int), decide (kd = 2)⟩) rfl (by omega) (fun x hx => Plain.new_newer (l := f.st i j) (by show Plain.maxA (f i j) 8 + 1 = _; rw [eM]) (Plain.listA_mem.2 ⟨k, by omega, hx⟩))
    rw [e, eM]
    rfl
  · have eW : Plain.writeS f.st ⟨kd, (i : Int), tz, (j : Int), (k : Int), va⟩ a c = f.st a c := by
      unfold Plain.writeS
      rw [if_neg (by simpa using hh)]
    rw [eW, Plain.upd_other f _ hh]
end Go.Proofs.Ytdcgkeanghhopak
