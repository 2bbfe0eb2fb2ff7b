/-
  Who waits is served: plain.
-/
import Derived.Test.YtiolkeghgodggajV2
namespace Go.Proofs.Ytiolkeghgodggaj.Bo
open Go.RowKit Go.Shelf Go.Sort

namespace Plain
def rnd : Ca := ⟨3, 0, 0⟩
theorem caB_rnd (b : Bk) : caB b rnd = roundB b := by
  have hE : caE b rnd = 0 := by unfold caE; rw [if_pos (show rnd.kind = 3 from rfl)]
  unfold caB
  rw [hE, if_neg (by decide), if_pos (show rnd.kind = 3 from rfl)]
theorem caT_rnd (b : Bk) : (caT b rnd).grants = (roundB b).given := by
  have hE : caE b rnd = 0 := by unfold caE; rw [if_pos (show rnd.kind = 3 from rfl)]
  unfold caT
  rw [hE, if_neg (by decide), if_pos (show rnd.kind = 3 from rfl)]
theorem bkF_rnds (b : Bk) (k : Nat) : bkF b (List.replicate k rnd) = roundsB b k := by
  induction k with
  | zero => rfl
  | succ k ih =>
    rw [List.replicate_succ', bkF_app, ih]
    show caB (roundsB b k) rnd = _
    rw [caB_rnd]; rfl
/-- The wants of three. -/
def wantL (x : List Int) (k : Nat) : List Ca := (List.range k).map fun (i : Nat) => (⟨2, (i : Int), x.getD i 0⟩ : Ca)
theorem wantL_succ (x : List Int) (k : Nat) : wantL x (k + 1) = wantL x k ++ [⟨2, (k : Int), x.getD k 0⟩] := by
  unfold wantL
  rw [List.range_succ, List.map_append]; rfl
theorem wantL_len (x : List Int) (k : Nat) : (wantL x k).length = k := by simp [wantL]
def stockC (x : List Int) : Ca := ⟨1, 0, 1 + 3 * (x.getD 0 0 + x.getD 1 0 + x.getD 2 0)⟩
theorem serve_law {cap : Int} {tk : Nat} {x0 x1 x2 : Int} (hc : 1 ≤ cap ∧ cap ≤ 1048576) (ht : 1 ≤ tk ∧ tk ≤ 8) (h0 : 0 ≤ x0 ∧ x0 < 40) (h1 : 0 ≤ x1 ∧ x1 < 40) (h2 : 0 ≤ x2 ∧ x2 < 40) (m : Nat) (hm : m + 1 = 40 * tk) :
    ((bookF (Bk.new 3 cap tk) (stockC [x0, x1, x2] :: wantL [x0, x1, x2] 3 ++ List.replicate (m + 1) rnd)).getD (4 + m) default).grants = [x0, x1, x2] := by
  have ok := Ok.new (n := 3) (show 0 ≤ cap ∧ cap ≤ 1048576 by omega) (show 0 < tk by omega)
  obtain ⟨S, hS⟩ : ∃ S, S = 1 + 3 * (x0 + x1 + x2) := ⟨_, rfl⟩
  have el : (stockC [x0, x1, x2] :: wantL [x0, x1, x2] 3 : List Ca) = [⟨1, 0, S⟩, ⟨2, 0, x0⟩, ⟨2, 1, x1⟩, ⟨2, 2, x2⟩] := by rw [hS]; rfl
  have hlen : ([⟨1, 0, S⟩, ⟨2, 0, x0⟩, ⟨2, 1, x1⟩, ⟨2, 2, x2⟩] : List Ca).length = 4 := rfl
  rw [el]
  obtain ⟨b1, hb1⟩ : ∃ b : Bk, b = { Bk.new 3 cap tk with ever := 0 + S, reserve := 0 + S } := ⟨_, rfl⟩
  have e1 : caB (Bk.new 3 cap tk) ⟨1, 0, S⟩ = b1 := by
    have hE : caE (Bk.new 3 cap tk) ⟨1, 0, S⟩ = 0 := may_ok (.inl ⟨rfl, by show 1 ≤ S; omega, by show S ≤ 400; omega⟩) rfl (by show (0 : Int) ≤ _; omega)
    unfold caB; rw [hE, hb1]; rfl
  have hb1e : b1.ever ≤ 1000000 ∧ b1.n = 3 := by rw [hb1]; exact ⟨by show 0 + S ≤ 1000000; omega, rfl⟩
  have e2 : caB b1 ⟨2, 0, x0⟩ = { b1 with wants := [x0, 0, 0] } := by
    have hE : caE b1 ⟨2, 0, x0⟩ = 0 := may_ok (.inr (.inl ⟨rfl, ⟨by show (0 : Int) ≤ 0; decide, by show (0 : Int) < 3; decide⟩, by show 0 ≤ x0; omega, by show x0 < 60; omega⟩)) hb1e.2 hb1e.1
    unfold caB; rw [hE, hb1]
    show ({ Bk.new 3 cap tk with ever := 0 + S, reserve := 0 + S, wants := [max 0 x0, 0, 0] } : Bk) = _
    rw [show max 0 x0 = x0 by omega]
  have e3 : caB { b1 with wants := [x0, 0, 0] } ⟨2, 1, x1⟩ = { b1 with wants := [x0, x1, 0] } := by
    have hE : caE { b1 with wants := [x0, 0, 0] } ⟨2, 1, x1⟩ = 0 := may_ok (.inr (.inl ⟨rfl, ⟨by show (0 : Int) ≤ 1; decide, by show (1 : Int) < 3; decide⟩, by show 0 ≤ x1; omega, by show x1 < 60; omega⟩)) hb1e.2 hb1e.1
    unfold caB; rw [hE]
    show ({ b1 with wants := [x0, max 0 x1, 0] } : Bk) = _
    rw [show max 0 x1 = x1 by omega]
  have e4 : caB { b1 with wants := [x0, x1, 0] } ⟨2, 2, x2⟩ = { b1 with wants := [x0, x1, x2] } := by
    have hE : caE { b1 with wants := [x0, x1, 0] } ⟨2, 2, x2⟩ = 0 := may_ok (.inr (.inl ⟨rfl, ⟨by show (0 : Int) ≤ 2; decide, by show (2 : Int) < 3; decide⟩, by show 0 ≤ x2; omega, by show x2 < 60; omega⟩)) hb1e.2 hb1e.1
    unfold caB; rw [hE]
    show ({ b1 with wants := [x0, x1, max 0 x2] } : Bk) = _
    rw [show max 0 x2 = x2 by omega]
  have hbk : bkF (Bk.new 3 cap tk) [⟨1, 0, S⟩, ⟨2, 0, x0⟩, ⟨2, 1, x1⟩, ⟨2, 2, x2⟩] = { b1 with wants := [x0, x1, x2] } := by
    show caB (caB (caB (caB (Bk.new 3 cap tk) ⟨1, 0, S⟩) ⟨2, 0, x0⟩) ⟨2, 1, x1⟩) ⟨2, 2, x2⟩ = _
    rw [e1, e2, e3, e4]
  obtain ⟨b4, hb4⟩ : ∃ b4 : Bk, b4 = { b1 with wants := [x0, x1, x2] } := ⟨_, rfl⟩
  rw [← hb4] at hbk
  have f0 : b4.n = 3 := by rw [hb4, hb1]; rfl
  have f1 : b4.ticks = tk := by rw [hb4, hb1]; rfl
  have f2 : b4.cap = cap := by rw [hb4, hb1]; rfl
  have f3 : b4.rounds = 0 := by rw [hb4, hb1]; rfl
  have f4 : b4.ever = 0 + S := by rw [hb4, hb1]
  have f5 : b4.wants = [x0, x1, x2] := by rw [hb4]
  clear hb4
  have ok4 : Ok b4 := by rw [← hbk]; exact ok.run _
  rw [bookF_at _ _ (4 + m) (by rw [List.length_append, hlen, List.length_replicate]; omega)]
  have etake : (([⟨1, 0, S⟩, ⟨2, 0, x0⟩, ⟨2, 1, x1⟩, ⟨2, 2, x2⟩] : List Ca) ++ List.replicate (m + 1) rnd).take (4 + m) = [⟨1, 0, S⟩, ⟨2, 0, x0⟩, ⟨2, 1, x1⟩, ⟨2, 2, x2⟩] ++ List.replicate m rnd := by
    rw [List.take_append, hlen, List.take_of_length_le (by rw [hlen]; omega), show 4 + m - 4 = m by omega, List.take_replicate, show min m (m + 1) = m by omega]
  have eget : (([⟨1, 0, S⟩, ⟨2, 0, x0⟩, ⟨2, 1, x1⟩, ⟨2, 2, x2⟩] : List Ca) ++ List.replicate (m + 1) rnd).getD (4 + m) default = rnd := by
    rw [List.getD_eq_getElem?_getD, List.getElem?_append_right (by rw [hlen]; omega), hlen, show 4 + m - 4 = m by omega, List.getElem?_replicate, if_pos (by omega)]; rfl
  rw [etake, eget, caT_rnd, bkF_app, hbk, bkF_rnds]
  have hrs : (roundB (roundsB b4 m)) = roundsB b4 (40 * tk) := by rw [← hm]; rfl
  rw [hrs]
  have sv := serve_all ok4 f3 (by rw [f2]; exact hc.1) (by
    rw [f0, f4, f5]
    by_cases hz : x0 + x1 + x2 = 0
    · left
      intro i hi
      have : i = 0 ∨ i = 1 ∨ i = 2 := by omega
      rcases this with rfl | rfl | rfl
      · show x0 = 0; omega
      · show x1 = 0; omega
      · show x2 = 0; omega
    · right
      show (3 : Int) + (x0 + (x1 + (x2 + 0))) ≤ 0 + S
      omega) 40
  have okE := roundsB_ok ok4 (40 * tk)
  have same := roundsB_same b4 (40 * tk)
  rw [f1] at sv
  have hg3 : (roundsB b4 (40 * tk)).given.length = 3 := by rw [okE.lg, same.1]; exact f0
  have hge := fun i (hi : i < 3) => sv i (by rw [f0]; exact hi)
  have hle := fun i (hi : i < 3) => (okE.gi i (by rw [same.1, f0]; exact hi)).2
  rw [same.2.2.2.1] at hle
  rw [list_mapN (roundsB b4 (40 * tk)).given, hg3]
  rw [f5] at hge hle
  have g0 := hge 0 (by omega); have l0 := hle 0 (by omega)
  have g1 := hge 1 (by omega); have l1 := hle 1 (by omega)
  have g2 := hge 2 (by omega); have l2 := hle 2 (by omega)
  generalize roundsB b4 (40 * tk) = rr at *
  have y0 : ([x0, x1, x2] : List Int).getD 0 0 = x0 := rfl
  have y1 : ([x0, x1, x2] : List Int).getD 1 0 = x1 := rfl
  have y2 : ([x0, x1, x2] : List Int).getD 2 0 = x2 := rfl
  rw [y0] at g0 l0
  rw [y1] at g1 l1
  rw [y2] at g2 l2
  show [rr.given.getD 0 0, rr.given.getD 1 0, rr.given.getD 2 0] = [x0, x1, x2]
  rw [show rr.given.getD 0 0 = x0 by omega, show rr.given.getD 1 0 = x1 by omega, show rr.given.getD 2 0 = x2 by omega]
end Plain
/-- A literal of one call. -/
theorem CI.lit (w : World) (y : Plain.Ca) (q : Nat) : CI w ((w.alloc (boxC y)).drewN q) (.slice (some ⟨w.heap.size, 0, none⟩) 1 1) [y] :=
  ⟨⟨rfl, .inr ⟨w.heap.size, 1, #[.int .i64 y.kind, .int .i64 y.who, .int .i64 y.count], rfl, Nat.le_refl _, Deep.blk_alloc_new _ _, Nat.le_refl _, by unfold maxLen; omega, rfl, rfl⟩⟩, below_drewN ((Below.refl _ _).alloc (Nat.le_refl _) _) q⟩
end Go.Proofs.Ytiolkeghgodggaj.Bo
