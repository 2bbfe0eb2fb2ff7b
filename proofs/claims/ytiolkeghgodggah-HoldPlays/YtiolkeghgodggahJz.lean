/-
  hold.Play: orders, one by one, at a branch that has nothing.
-/
import Derived.Test.YtiolkeghgodggahLg
import Derived.Deep.RegionHeld3
namespace Go.Proofs.Ytiolkeghgodggah.Hd
open Go.RowKit Go.Shelf Go.Sort

def toldF (s : List Plain.St) (j : Nat) : Value := (encS.vals s).getD j (.int .i64 0)
theorem toldF_snoc (s : List Plain.St) (t : Plain.St) (k j : Nat) (hvl : (encS.vals s).length = k * 5) : toldF (s ++ [t]) j = if j = k * 5 + 4 then .int .i64 t.used else if j = k * 5 + 3 then .int .i64 t.held else if j = k * 5 + 2 then .int .i64 t.free else if j = k * 5 + 1 then .int .i64 t.id else if j = k * 5 then .int .i64 (t.code : Nat) else toldF s j := by
  unfold toldF
  rw [encS.vals_app, encS.vals_one, List.getD_eq_getElem?_getD, List.getD_eq_getElem?_getD]
  by_cases h4 : j = k * 5 + 4
  · subst h4
    rw [if_pos rfl, List.getElem?_append_right (by omega), hvl, show k * 5 + 4 - k * 5 = 4 by omega, show (encS.enc t)[4]? = some (.int .i64 t.used) from rfl]
    rfl
  rw [if_neg h4]
  by_cases h3 : j = k * 5 + 3
  · subst h3
    rw [if_pos rfl, List.getElem?_append_right (by omega), hvl, show k * 5 + 3 - k * 5 = 3 by omega, show (encS.enc t)[3]? = some (.int .i64 t.held) from rfl]
    rfl
  rw [if_neg h3]
  by_cases h2 : j = k * 5 + 2
  · subst h2
    rw [if_pos rfl, List.getElem?_append_right (by omega), hvl, show k * 5 + 2 - k * 5 = 2 by omega, show (encS.enc t)[2]? = some (.int .i64 t.free) from rfl]
    rfl
  rw [if_neg h2]
  by_cases h1 : j = k * 5 + 1
  · subst h1
    rw [if_pos rfl, List.getElem?_append_right (by omega), hvl, show k * 5 + 1 - k * 5 = 1 by omega, show (encS.enc t)[1]? = some (.int .i64 t.id) from rfl]
    rfl
  rw [if_neg h1]
  by_cases h0 : j = k * 5
  · subst h0
    rw [if_pos rfl, List.getElem?_append_right (by omega), hvl, show k * 5 - k * 5 = 0 by omega, show (encS.enc t)[0]? = some (.int .i64 (t.code : Nat)) from rfl]
    rfl
  rw [if_neg h0]
  by_cases hlt : j < k * 5
  · rw [List.getElem?_append_left (by omega)]
  · have e5 : (encS.enc t).length = 5 := encS.len t
    rw [List.getElem?_eq_none (by rw [List.length_append, hvl, e5]; omega), List.getElem?_eq_none (by omega)]
/-- A branch, and what was told, in memory. -/
abbrev newZ (w : World) (k : Nat) : Prop := w.heap.size + 2 ≤ k
abbrev winH : Win := Win.all 50 4
structure PlI (w wx : World) (vo : Value) (r : Plain.Rk) (s : List Plain.St) (n : Nat) : Prop where
  br : BrR (newZ w) (w.heap.size + 1) 0 winH wx vo r
  tl : wx.rowIs w.heap.size 36 (n * 5) (toldF s)
  be : Below w.heap.size w wx
namespace PlI
variable {w wx wy : World} {vo vo' : Value} {r r' : Plain.Rk} {s : List Plain.St} {n : Nat}
theorem start (w : World) (n : Nat) : PlI w ((w.alloc (.cells (madeCells #[.int .i64 0, .int .i64 0, .int .i64 0, .int .i64 0, .int .i64 0] (n * 5)) 36)).alloc (.cells #[.int .i64 0, .int .i64 0, .slice none 0 0, .int .i64 0] 50)) (.slice none 0 0) Plain.Rk.nil [] n := by
  have h1 : (w.alloc (.cells (madeCells #[.int .i64 0, .int .i64 0, .int .i64 0, .int .i64 0, .int .i64 0] (n * 5)) 36)).rowIs w.heap.size 36 (n * 5) (toldF []) := by
    refine ⟨_, Deep.blk_alloc_new _ _, size_madeCells _ _, fun i hi => ?_⟩
    have h5 : i % 5 < 5 := Nat.mod_lt _ (by decide)
    have : i % 5 = 0 ∨ i % 5 = 1 ∨ i % 5 = 2 ∨ i % 5 = 3 ∨ i % 5 = 4 := by omega
    rcases this with e | e | e | e | e <;> simp [madeCells, hi, e, toldF, Enc.vals]
  have hs : (w.alloc (.cells (madeCells #[.int .i64 0, .int .i64 0, .int .i64 0, .int .i64 0, .int .i64 0] (n * 5)) 36)).heap.size = w.heap.size + 1 := by simp
  refine ⟨⟨?_, World.ownsRow_nil _ _ _ _, (fun g e => by simp [Value.ownBlock] at e), (fun k hk => by simpa using hk), by decide, by decide⟩, h1.alloc _, ((Below.refl _ _).alloc (Nat.le_refl _) _).alloc (by simp) _⟩
  refine Win.of_all ?_
  rw [← hs]
  refine World.rowIs_alloc _ _ 50 _ fun i hi => ?_
  have hi4 : i < 4 := hi
  have : i = 0 ∨ i = 1 ∨ i = 2 ∨ i = 3 := by omega
  rcases this with rfl | rfl | rfl | rfl <;> rfl
theorem grow (h : PlI w wx vo r s n) (g : Below wx.heap.size wx wy) : PlI w wy vo r s n :=
  ⟨BrI.grow h.br g, h.tl.of_block (g.block _ h.tl.lt), h.be.trans (g.mono h.be.size)⟩
/-- Behind an order. -/
theorem order (h : PlI w wx vo r s n) (br : BrR (newZ w) (w.heap.size + 1) 0 winH wy vo' r') (k : Kp (newZ w) (w.heap.size + 1) wx wy) : PlI w wy vo' r' s n :=
  ⟨br, k.rowIs h.tl (fun x => by have : w.heap.size + 2 ≤ w.heap.size := x; omega) (by omega), h.be.trans ⟨k.os, k.tape, k.output, k.size, fun b hb => k.block b (Nat.lt_of_lt_of_le hb h.be.size) (by omega) (fun x => by have : w.heap.size + 2 ≤ b := x; omega)⟩⟩
theorem told (h : PlI w wx vo r s n) (k : Nat) (hs : s.length = k) (t : Plain.St) : PlI w (putS wx w.heap.size (k * 5) t) vo r (s ++ [t]) n := by
  have hne : w.heap.size + 1 ≠ w.heap.size := by omega
  have hvl : (encS.vals s).length = k * 5 := by rw [encS.vals_len, hs]; rfl
  have hgr := putS_other wx w.heap.size (k * 5) t
  have hbr : BrR (newZ w) (w.heap.size + 1) 0 winH (putS wx w.heap.size (k * 5) t) vo r := ⟨h.br.row.of_block (hgr _ hne), owns_block h.br.ow fun b hb => hgr b (fun e => row_owns_ne h.tl h.br.ow (by decide) (by rw [hb, e])), h.br.own, fun k' hk => h.br.up k' (by rw [← putS_size wx w.heap.size (k * 5) t]; exact hk), h.br.ne, h.br.le⟩
  have hbe : Below w.heap.size w (putS wx w.heap.size (k * 5) t) := ⟨(putS_os _ _ _ _).trans h.be.os, (putS_tape _ _ _ _).trans h.be.tape, (putS_output _ _ _ _).trans h.be.output, by rw [putS_size]; exact h.be.size, fun b hb => (hgr b (by omega)).trans (h.be.block b hb)⟩
  have e5 := ((((h.tl.set (k * 5) (.int .i64 (t.code : Nat))).set (k * 5 + 1) (.int .i64 t.id)).set (k * 5 + 2) (.int .i64 t.free)).set (k * 5 + 3) (.int .i64 t.held)).set (k * 5 + 4) (.int .i64 t.used)
  have e6 := e5.congr (fun j _ => (toldF_snoc s t k j hvl).symm)
  have e7 : (putS wx w.heap.size (k * 5) t).rowIs w.heap.size 36 (n * 5) (toldF (s ++ [t])) := by unfold putS; exact e6
  exact ⟨hbr, e7, hbe⟩
theorem holds (h : PlI w wx vo r s n) (hs : s.length = n) : encS.Holds wx (some ⟨w.heap.size, 0, none⟩) s := fun _ => by
  refine ⟨w.heap.size, 0, rfl, h.tl.lt, fun j u hu => ?_⟩
  have hj : j < n * 5 := by
    rcases Nat.lt_or_ge j (n * 5) with x | x
    · exact x
    · rw [List.getElem?_eq_none (by rw [encS.vals_len, hs]; exact x)] at hu; cases hu
  rw [Nat.zero_add, h.tl.cell hj]
  unfold toldF
  rw [List.getD_eq_getElem?_getD, hu]
  rfl
end PlI

set_option maxHeartbeats 4000000 in
set_option maxRecDepth 100000 in
theorem play_c (p : Option Addr) (n cap : Nat) (l : List Plain.Or) (hin : ∀ j, j < l.length → InO (l.getD j default)) (hbig : n ≤ 9223372036854775807) (w : World) (hn : l.length = n) (hp : encO.Holds w p l) :
    Calls Try.prog 13 #[.slice p n cap] w fun e w' => ∃ q c, e = .returned (.tuple #[.slice q (Plain.holdV l).length c, .int .i64 (Plain.holdE l : Nat)]) ∧ encS.Holds w' q (Plain.holdV l) ∧ Below w.heap.size w w' ∧ (∀ a, q = some a → 0 < (Plain.holdV l).length → w.heap.size ≤ a.block) := by
  unfold Plain.holdV Plain.holdE
  rw [hn]
  by_cases h300 : 300 < n
  · have hz : (300 : Int) < (n : Int) := by omega
    rw [if_pos h300, if_pos h300]
    go_enter Try.func13, Try.ntmps13
    go_wp2
    go_ret2
    exact ⟨none, 0, rfl, Enc.Holds.nil _ _, Below.refl _ _, fun a e => by cases e⟩
  have hz : ¬ (300 : Int) < (n : Int) := by omega
  rw [if_neg h300, if_neg h300]
  have hmk : ∀ W : World, (Instr.makeSlice 31 (.int .i64 (n : Int)) (.int .i64 (n : Int))).run Try.prog W = .ok (.slice (some ⟨W.heap.size, 0, none⟩) n n) (W.alloc (.cells (madeCells #[.int .i64 0, .int .i64 0, .int .i64 0, .int .i64 0, .int .i64 0] (n * 5)) 36)) := fun W => by
    obtain ⟨i0, hi, hz0, hz1, hz2⟩ := info_parts Try.infoStock
    have := run_make (P := Try.prog) W 31 36 i0 _ Try.underlying31 hi hz0 .i64 .i64 (n : Int) (n : Int) (by omega) (Int.le_refl _) (by rw [hz2]; omega) (by omega)
    rw [hz1, show (Value.agg #[.int .i64 0, .int .i64 0, .int .i64 0, .int .i64 0, .int .i64 0]).cells = #[.int .i64 0, .int .i64 0, .int .i64 0, .int .i64 0, .int .i64 0] from rfl] at this
    simpa using this
  have HP := hid hp
  have HN := hid hn
  have HIN := hid hin
  have ST := hid (PlI.start w n)
  clear hp hn hin
  go_enter Try.func13, Try.ntmps13
  go_wp2
  clear hmk
  go_loopg [6, 7, 16] n (fun gg _ _ s16 wx => ∃ k : Nat, k ≤ n ∧ n - k ≤ gg ∧ s16 = .int .i64 k ∧ Aside (∃ vo, PlI w wx vo (Plain.runF Plain.Rk.nil (l.take k)) (Plain.playF Plain.Rk.nil (l.take k)) n))
  case atStart => exact ⟨0, Nat.zero_le _, by omega, rfl, (show Aside _ from ⟨_, ST.out⟩)⟩
  case round =>
    obtain ⟨k, hkk, hg, rfl, A⟩ := hrel
    clear ST
    by_cases hlt : k < n
    · have hltz : (k : Int) < (n : Int) := by omega
      have hll : k < l.length := by rw [HN.out]; exact hlt
      obtain ⟨vo, hi⟩ := A.out
      have HI0 := hid hi
      clear hi A
      obtain ⟨b, off, rfl, hb, hc⟩ := holdsO (HP.out.grow (show Below w.heap.size w wr from HI0.out.be)) (by omega)
      obtain ⟨c0, c1, c2, c3⟩ := hc k hll
      clear hc
      have RT := hid (Plain.runF_take Plain.Rk.nil l k hll)
      have PT := hid (Plain.playF_take Plain.Rk.nil l k hll)
      have hmd := Plain.made_take l k
      have hv := Plain.Hv.nil.run (l.take k)
      have hs : (Plain.playF Plain.Rk.nil (l.take k)).length = k := by rw [Plain.playF_len, List.length_take]; omega
      obtain ⟨o, ho⟩ : ∃ o, o = l.getD k default := ⟨_, rfl⟩
      rw [← ho] at c0 c1 c2 c3 RT PT
      clear ho
      generalize Plain.runF Plain.Rk.nil (l.take k) = r at HI0 RT PT hmd hv
      generalize Plain.playF Plain.Rk.nil (l.take k) = s at HI0 PT hs
      have HIa := hid (HI0.out.grow (wy := wr.alloc (boxQ o)) ((Below.refl _ _).alloc (Nat.le_refl _) _))
      have HIZ := hid (BrI.near_le HIa.out.br (Nat.le_refl _))
      have K := take_c (newZ w) (w.heap.size + 1) 0 winH vo r _ hv (by omega) o (wr.alloc (boxQ o)) HIa.out.br
      clear hv
      go_wp2_with fail
      refine K.mono ?_
      rintro e W3 ⟨rfl, ⟨vo', br⟩, kp⟩
      have HI3 := hid (HIa.out.order br kp)
      clear br kp K HIa HI0 c0 c1 c2 c3
      obtain ⟨r', hr'⟩ : ∃ r', r' = Plain.stepR r o := ⟨_, rfl⟩
      obtain ⟨T, hT⟩ : ∃ T, T = Plain.toldR r o := ⟨_, rfl⟩
      rw [← hT] at PT ⊢
      rw [← hr'] at HI3 RT
      clear hr' hT
      have y0 := HI3.out.tl.cell (i := k * 5) (by omega)
      have y1 := HI3.out.tl.cell (i := k * 5 + 1) (by omega)
      have y2 := HI3.out.tl.cell (i := k * 5 + 2) (by omega)
      have y3 := HI3.out.tl.cell (i := k * 5 + 3) (by omega)
      have y4 := HI3.out.tl.cell (i := k * 5 + 4) (by omega)
      have z0 := HI3.out.tl.frozen (k * 5)
      have z1 := HI3.out.tl.frozen (k * 5 + 1)
      have z2 := HI3.out.tl.frozen (k * 5 + 2)
      have z3 := HI3.out.tl.frozen (k * 5 + 3)
      have z4 := HI3.out.tl.frozen (k * 5 + 4)
      obtain ⟨W6, hW6⟩ : ∃ W6, W6 = ((((W3.setCell ⟨w.heap.size, k * 5, none⟩ (.int .i64 (T.code : Nat))).setCell ⟨w.heap.size, k * 5 + 1, none⟩ (.int .i64 T.id)).setCell ⟨w.heap.size, k * 5 + 2, none⟩ (.int .i64 T.free)).setCell ⟨w.heap.size, k * 5 + 3, none⟩ (.int .i64 T.held)).setCell ⟨w.heap.size, k * 5 + 4, none⟩ (.int .i64 T.used) := ⟨_, rfl⟩
      have F6 := hid (show PlI w W6 vo' r' (s ++ [T]) n by rw [hW6]; exact HI3.out.told k hs T)
      go_wp2
      rw [← hW6]
      clear hW6 y0 y1 y2 y3 y4 z0 z1 z2 z3 z4 HI3
      go_roundg (n - (k + 1))
      case measure => omega
      case rel =>
        refine ⟨k + 1, by omega, by omega, by go_num, (show Aside _ from ⟨vo', ?_⟩)⟩
        rw [RT.out, PT.out]
        exact F6.out
    · have hltz : ¬ (k : Int) < (n : Int) := by omega
      have ek : k = n := by omega
      have hall : l.take k = l := List.take_of_length_le (by rw [HN.out]; omega)
      obtain ⟨vo, hi⟩ := A.out
      rw [hall] at hi
      have hs : (Plain.playF Plain.Rk.nil l).length = n := by rw [Plain.playF_len, HN.out]
      have HH := hid (hi.holds hs)
      have BE := hid hi.be
      have HS := hid hs
      clear hi A hall hs
      go_wp2
      go_ret2
      refine ⟨_, ⟨n, ?_⟩, HH.out, BE.out, fun a ha _ => ?_⟩
      · rw [HS.out]; rfl
      · injection ha with ha
        rw [← ha]; exact Nat.le_refl _
end Go.Proofs.Ytiolkeghgodggah.Hd
