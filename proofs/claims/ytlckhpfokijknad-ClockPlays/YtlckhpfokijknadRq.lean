/-
  A contract of the document's answer to Play.
-/
import Derived.Test.YtlckhpfokijknadRm
import Derived.Test.YtlckhpfokijknadCq
import Derived.Test.YtlckhpfokijknadPr
import Derived.Deep.QuietTactic
import Derived.BigQuiet
namespace Go.Proofs.Ytlckhpfokijknad
open Go.RowKit

theorem Try.infoBool : (Try.prog.info? 4).map (fun i => (i.zero, i.size, i.bytes)) = some (some (.bool false), 1, 1) := by kernel_rfl
theorem Try.infoRowB : (Try.prog.info? 48).map (fun i => (i.zero, i.size, i.bytes)) = some (some (.slice none 0 0), 1, 24) := by kernel_rfl

theorem box3 (w : World) (x y z : Value) (t : TypeId) : (w.alloc (.cells #[x, y, z] t)).cell? ⟨w.heap.size, 0, none⟩ = some x ∧ (w.alloc (.cells #[x, y, z] t)).cell? ⟨w.heap.size, 1, none⟩ = some y ∧ (w.alloc (.cells #[x, y, z] t)).cell? ⟨w.heap.size, 2, none⟩ = some z := by
  have b2 : (w.alloc (.cells #[x, y, z] t)).heap[w.heap.size]? = some (.cells #[x, y, z] t (0, 0)) := Deep.blk_alloc_new _ _
  refine ⟨?_, ?_, ?_⟩ <;> (unfold World.cell?; rw [b2]; rfl)

/-- The box of the event, beside all that lies there. -/
structure BX (n L m : Nat) (l : List Plain.Ev) (w0 wo wx : World) (vh vo : Value) (gH gO : Nat → Nat) (b off : Nat) (kk ww oo : Int) : Prop where
  ri : RI n L m m l w0 (wo.alloc (.cells #[.int .i64 kk, .int .i64 ww, .int .i64 oo] 45)) vh vo gH gO
  bel : Below (wo.alloc (.cells #[.int .i64 kk, .int .i64 ww, .int .i64 oo] 45)).heap.size (wo.alloc (.cells #[.int .i64 kk, .int .i64 ww, .int .i64 oo] 45)) wx
  c0 : wx.cell? ⟨wo.heap.size, 0, none⟩ = some (.int .i64 kk)
  c1 : wx.cell? ⟨wo.heap.size, 1, none⟩ = some (.int .i64 ww)
  c2 : wx.cell? ⟨wo.heap.size, 2, none⟩ = some (.int .i64 oo)
  ce : CellsE wx b off l
  lt : b < wo.heap.size

theorem BX.start {n L m : Nat} {l : List Plain.Ev} {w0 wo : World} {vh vo : Value} {gH gO : Nat → Nat} {b off : Nat} (kk ww oo : Int) (r : RI n L m m l w0 wo vh vo gH gO) (ce : CellsE w0 b off l) (hb : b < w0.heap.size) :
    BX n L m l w0 wo (wo.alloc (.cells #[.int .i64 kk, .int .i64 ww, .int .i64 oo] 45)) vh vo gH gO b off kk ww oo := by
  have g : Below wo.heap.size wo (wo.alloc (.cells #[.int .i64 kk, .int .i64 ww, .int .i64 oo] 45)) := (Below.refl _ _).alloc (Nat.le_refl _) _
  obtain ⟨x0, x1, x2⟩ := box3 wo (.int .i64 kk) (.int .i64 ww) (.int .i64 oo) 45
  exact ⟨r.grow g, Below.refl _ _, x0, x1, x2, ce.below (r.grow g).bel hb, Nat.lt_of_lt_of_le hb r.bel.size⟩
theorem BX.step {n L m : Nat} {l : List Plain.Ev} {w0 wo wx wy : World} {vh vo : Value} {gH gO : Nat → Nat} {b off : Nat} {kk ww oo : Int} (h : BX n L m l w0 wo wx vh vo gH gO b off kk ww oo)
    (g : Below (wo.heap.size + 1) wx wy) : BX n L m l w0 wo wy vh vo gH gO b off kk ww oo := by
  have e : (wo.alloc (.cells #[.int .i64 kk, .int .i64 ww, .int .i64 oo] 45)).heap.size = wo.heap.size + 1 := by simp
  refine ⟨h.ri, h.bel.trans (e ▸ g), ?_, ?_, ?_, h.ce.below g (by have := h.lt; omega), h.lt⟩
  · exact (g.cell (p := ⟨wo.heap.size, 0, none⟩) (by show wo.heap.size < wo.heap.size + 1; omega)).trans h.c0
  · exact (g.cell (p := ⟨wo.heap.size, 1, none⟩) (by show wo.heap.size < wo.heap.size + 1; omega)).trans h.c1
  · exact (g.cell (p := ⟨wo.heap.size, 2, none⟩) (by show wo.heap.size < wo.heap.size + 1; omega)).trans h.c2
theorem BX.mem {n L m : Nat} {l : List Plain.Ev} {w0 wo wx : World} {vh vo : Value} {gH gO : Nat → Nat} {b off : Nat} {kk ww oo : Int} (h : BX n L m l w0 wo wx vh vo gH gO b off kk ww oo) : RI n L m m l w0 wx vh vo gH gO := h.ri.grow h.bel

theorem new_cell0 (w : World) (v : Value) (t : TypeId) : (w.alloc (.cells #[v] t)).cell? ⟨w.heap.size, 0, none⟩ = some v := by simp
theorem made_row (w : World) (B : Nat) (hB : w.heap.size = B) {L m : Nat} (hm : m < L) :
    (w.alloc (.cells (madeCells #[.bool false] L) 4)).cell? ⟨B, m, none⟩ = some (.bool false) ∧ (w.alloc (.cells (madeCells #[.bool false] L) 4)).frozen? ⟨B, m, none⟩ = false ∧ B < (w.alloc (.cells (madeCells #[.bool false] L) 4)).heap.size ∧
      Hid ((w.alloc (.cells ((madeCells #[.bool false] L).setIfInBounds m (.bool true)) 4)).rowIs B 4 L (fun j => if j = m then .bool true else .bool false) ∧ Below B w (w.alloc (.cells ((madeCells #[.bool false] L).setIfInBounds m (.bool true)) 4))) := by
  subst hB
  have h := World.rowIs_made w (.bool false) L 4
  refine ⟨h.cell hm, h.frozen m, h.lt, ?_, (Below.refl _ _).alloc (Nat.le_refl _) _⟩
  obtain ⟨c, hc, hn, hget⟩ := h
  have hb : (w.alloc (.cells (madeCells #[.bool false] L) 4)).heap[w.heap.size]? = some (.cells (madeCells #[.bool false] L) 4 (0, 0)) := Deep.blk_alloc_new _ _
  rw [hb] at hc
  simp only [Option.some.injEq, Obj.cells.injEq, and_true] at hc
  rw [hc]
  refine ⟨c.setIfInBounds m (.bool true), Deep.blk_alloc_new _ _, by simpa using hn, fun i hi => ?_⟩
  rw [Array.getElem?_setIfInBounds]
  by_cases e : m = i
  · subst e
    show _ = some (if m = m then Value.bool true else Value.bool false)
    rw [if_pos rfl, if_pos (by omega), if_pos rfl]
  · show _ = some (if i = m then Value.bool true else Value.bool false)
    rw [if_neg e, if_neg (fun h => e h.symm)]; exact hget i hi
theorem on_set {w : World} {B L j : Nat} {x : Bool} {f g : Nat → Bool} (h : w.rowIs B 4 L (fun t => .bool (if t < j then f t else g t))) (hx : f j = x) : (w.setCell ⟨B, j, none⟩ (.bool x)).rowIs B 4 L (fun t => .bool (if t < j + 1 then f t else g t)) := by
  refine (h.set j _).congr fun t _ => ?_
  by_cases e : t = j
  · subst e; rw [if_pos rfl, if_pos (by omega), hx]
  · rw [if_neg e]
    by_cases d : t < j
    · rw [if_pos d, if_pos (by omega)]
    · rw [if_neg d, if_neg (by omega)]
theorem tally_set {w : World} {B n j wj : Nat} {l : List Plain.Ev} {f : Nat → Bool} {y : Int} (h : w.rowIs B 3 n (fun s => .int .i64 (Plain.tally l f s j : Nat))) (hf : f j = true) (hw : Plain.wh l j = wj) (hy : y = (Plain.tally l f wj j : Nat) + 1) :
    (w.setCell ⟨B, wj, none⟩ (.int .i64 y)).rowIs B 3 n (fun s => .int .i64 (Plain.tally l f s (j + 1) : Nat)) := by
  refine (h.set wj _).congr fun s _ => ?_
  have e : Plain.tally l f s (j + 1) = Plain.tally l f s j + (if f j = true ∧ Plain.wh l j = s then 1 else 0) := rfl
  rw [e]
  by_cases d : s = wj
  · subst d; rw [if_pos rfl, if_pos ⟨hf, hw⟩, hy]; rfl
  · rw [if_neg d, if_neg (fun h => d (h.2.symm.trans hw))]; rfl
theorem tally_not {w : World} {B n j : Nat} {l : List Plain.Ev} {f : Nat → Bool} (h : w.rowIs B 3 n (fun s => .int .i64 (Plain.tally l f s j : Nat))) (hf : f j = false) : w.rowIs B 3 n (fun s => .int .i64 (Plain.tally l f s (j + 1) : Nat)) := by
  refine h.congr fun s _ => ?_
  have e : Plain.tally l f s (j + 1) = Plain.tally l f s j + (if f j = true ∧ Plain.wh l j = s then 1 else 0) := rfl
  rw [e, if_neg (by rw [hf]; simp)]; rfl
theorem BX.drewN {n L m : Nat} {l : List Plain.Ev} {w0 wo wx : World} {vh vo : Value} {gH gO : Nat → Nat} {b off : Nat} {kk ww oo : Int} (h : BX n L m l w0 wo wx vh vo gH gO b off kk ww oo) (q : Nat) :
    BX n L m l w0 wo (wx.drewN q) vh vo gH gO b off kk ww oo := h.step (below_drewN (Below.refl _ _) q)
theorem rowIs_drewN {w : World} {b t n : Nat} {f : Nat → Value} (h : w.rowIs b t n f) (q : Nat) : (w.drewN q).rowIs b t n f := h
theorem on_start {w : World} {B L m : Nat} {l : List Plain.Ev} (h : w.rowIs B 4 L (fun j => if j = m then .bool true else .bool false)) : w.rowIs B 4 L (fun j => .bool (Plain.onK l L m 0 j)) := by
  refine h.congr fun j _ => ?_
  by_cases e : j = m
  · rw [if_pos e]; simp [Plain.onK, e]
  · rw [if_neg e]; simp [Plain.onK, e]
theorem stepB_act {l : List Plain.Ev} {n m k wn : Nat} {kk ww oo wk : Int} (he : Plain.ev l m = (kk, ww, oo)) (h3 : kk ≠ 3) (hw : Plain.wh l m = wn) (hk : wk = (Plain.ev l k).2.1) (hv : 0 ≤ (Plain.ev l k).2.1 ∧ (Plain.ev l k).2.1 < n) : Plain.stepB l m k = decide (wk = (wn : Int)) := by
  unfold Plain.stepB Plain.kd
  rw [he, hw, hk]
  have e : Plain.wh l k = (Plain.ev l k).2.1.toNat := rfl
  rw [e]
  simp only [h3, decide_false, Bool.false_and, Bool.or_false]
  rw [Bool.eq_iff_iff, decide_eq_true_iff, decide_eq_true_iff]
  omega
theorem stepB_hear {l : List Plain.Ev} {n m k wn on : Nat} {ww wk : Int} (he : Plain.ev l m = (3, ww, (on : Int))) (hw : Plain.wh l m = wn) (hk : wk = (Plain.ev l k).2.1) (hv : 0 ≤ (Plain.ev l k).2.1 ∧ (Plain.ev l k).2.1 < n) : Plain.stepB l m k = (decide (wk = (wn : Int)) || decide (on = k)) := by
  unfold Plain.stepB Plain.kd Plain.ofp
  rw [he, hw, hk]
  have e : Plain.wh l k = (Plain.ev l k).2.1.toNat := rfl
  rw [e]
  simp only [decide_true, Bool.true_and, Int.toNat_natCast]
  congr 1
  rw [Bool.eq_iff_iff, decide_eq_true_iff, decide_eq_true_iff]
  omega

set_option maxHeartbeats 8000000 in
set_option maxRecDepth 100000 in
theorem rplay_some (n cap : Nat) (p : Option Addr) (l : List Plain.Ev) (h1 : 1 ≤ n) (h8 : n ≤ 8) (hl : l.length ≤ 200) (_hcap : l.length ≤ cap) (w : World) (hp : 0 < l.length → ∃ b off, p = some ⟨b, off, none⟩ ∧ CellsE w b off l ∧ b < w.heap.size) :
    Calls Try.prog 17 #[.int .i64 n, .slice p l.length cap] w fun e w' =>
      (Plain.firstE (Plain.evE n l) l.length = 0 ∧ ∃ vh vo gH gO, e = .returned (.tuple #[vo, .int .i64 0]) ∧ RI n l.length l.length l.length l w w' vh vo gH gO) ∨
      (Plain.firstE (Plain.evE n l) l.length ≠ 0 ∧ e = .returned (.tuple #[.slice none 0 0, .int .i64 (Plain.firstE (Plain.evE n l) l.length : Nat)]) ∧ Below w.heap.size w w') := by
  have HQ := hid hp
  clear hp
  have hmk1 := run_make_row' (P := Try.prog) 48 4 (.bool false) 1 Try.underlying48 Try.infoBool rfl .i64 .i64 l.length (by omega) (by omega)
  have hmk2 := run_make_row' (P := Try.prog) 22 3 (.int .i64 0) 8 Try.underlying22 Try.infoInt rfl .i64 .i64 n (by omega) (by omega)
  have a1 : ¬ (n : Int) < 1 := by omega
  have a2 : ¬ (8 : Int) < (n : Int) := by omega
  have a3 : ¬ (200 : Int) < (l.length : Int) := by omega
  go_enter Try.func17, Try.ntmps17
  go_wp2
  go_loopw [6, 7, 26] (fun vh vo i wx => ∃ (m : Nat) (gH gO : Nat → Nat), m ≤ l.length ∧ i = .int .i64 m ∧ (∀ j, j < m → Plain.evE n l j = 0) ∧ RI n l.length m m l w wx vh vo gH gO) (fun _ _ i _ => l.length - (intOf i).toNat)
  case atStart => exact ⟨0, fun _ => 0, fun _ => 0, Nat.zero_le _, rfl, fun j hj => by omega, RI.start w⟩
  case round =>
    obtain ⟨m, gH, gO, hm, rfl, hval, hri⟩ := hrel
    have HV := hid hval
    have HR := hid hri
    clear hval hri
    obtain ⟨wo, hwo⟩ : ∃ wo, wo = wr := ⟨_, rfl⟩
    subst hwo
    by_cases hlt : m < l.length
    · have hlt' : (m : Int) < (l.length : Int) := by omega
      obtain ⟨b, off, hp1, hc, hb⟩ := HQ.out (by omega)
      subst hp1
      have HC := hid hc
      clear hc HQ
      obtain ⟨g0, g1, g2⟩ := HC.out.below HR.out.bel hb m hlt
      obtain ⟨kk, ww, oo, hev⟩ : ∃ kk ww oo, Plain.ev l m = (kk, ww, oo) := ⟨_, _, _, rfl⟩
      rw [hev] at g0 g1 g2
      simp only at g0 g1 g2
      have HE := hid hev
      clear hev
      have HX := hid (BX.start kk ww oo HR.out HC.out hb)
      by_cases he : Plain.evE n l m = 0
      · have hwh := Plain.evE_wh he
        have hkd := Plain.evE_kd he
        have hof := hid (Plain.evE_of he)
        unfold Plain.kd at hkd
        rw [HE.out] at hwh hkd
        simp only at hwh hkd
        obtain ⟨wn, rfl⟩ := Int.eq_ofNat_of_zero_le hwh.1
        have hwn : wn < n := by omega
        have hwn' : (wn : Int) < (n : Int) := by omega
        have hwn0 : ¬ (wn : Int) < 0 := by omega
        have HW := hid (show Plain.wh l m = wn by unfold Plain.wh; rw [HE.out]; rfl)
        clear hwh
        obtain ⟨mk0, mk1, mk2, MK⟩ := made_row (wo.alloc (.cells #[.int .i64 kk, .int .i64 wn, .int .i64 oo] 45)) (wo.heap.size + 1) (by simp) hlt
        rcases hkd with rfl | rfl | rfl
        · go_wp2
          clear mk0 mk1 mk2 hmk1
          go_loopw [11] (fun i wx => ∃ k : Nat, k ≤ m ∧ i = .int .i64 k ∧ wx.rowIs (wo.heap.size + 1) 4 l.length (fun j => .bool (Plain.onK l l.length m k j)) ∧ BX n l.length m l w wo wx u6 u7 gH gO b off 1 wn oo) (fun i _ => m - (intOf i).toNat)
          case atStart => exact ⟨0, Nat.zero_le _, rfl, on_start MK.out.1, HX.out.step MK.out.2⟩
          case round =>
            clear MK HX HR g0 g1 g2
            obtain ⟨k, hk, rfl, hrow, hbx⟩ := hrel
            have HO := hid hrow
            have HB := hid hbx
            clear hrow hbx
            by_cases hkm : k < m
            · have hkm' : (k : Int) < (m : Int) := by omega
              obtain ⟨_, e1, _⟩ := HB.out.ce k (by omega)
              have c0 := HB.out.c0
              have c1 := HB.out.c1
              have hkl : (k : Int) < (l.length : Int) := by omega
              obtain ⟨wk, hwk⟩ : ∃ wk, wk = (Plain.ev l k).2.1 := ⟨_, rfl⟩
              rw [← hwk] at e1
              have HK := hid (stepB_act HE.out (by decide) HW.out hwk (Plain.evE_wh (HV.out k hkm)))
              clear hwk
              by_cases hs : wk = wn
              · have HS := hid (show Plain.stepB l m k = true by rw [HK.out]; simp [hs])
                subst hs
                go_wp2
                go_quiet (fail)
                go_wp2
                obtain ⟨wq, hwq⟩ : ∃ wq, wq = wr.drewN nq := ⟨_, rfl⟩
                rw [← hwq]
                have HB1 := hid (show BX n l.length m l w wo wq u6 u7 gH gO b off 1 wn oo by rw [hwq]; exact HB.out.drewN nq)
                have HO1 := hid (show wq.rowIs (wo.heap.size + 1) 4 l.length (fun j => .bool (Plain.onK l l.length m k j)) by rw [hwq]; exact rowIs_drewN HO.out nq)
                clear hwq e1 c0 c1 HO HB
                obtain ⟨gh, ch, hvh⟩ := owns_some HB1.out.ri.hown (show 0 < m by omega)
                subst hvh
                go_loopw [114] (fun i wx => ∃ j : Nat, j ≤ l.length ∧ i = .int .i64 j ∧ wx.rowIs (wo.heap.size + 1) 4 l.length (fun t => .bool (if t < j then Plain.onK l l.length m (k + 1) t else Plain.onK l l.length m k t)) ∧ BX n l.length m l w wo wx (.slice (some ⟨gh, 0, none⟩) m ch) u7 gH gO b off 1 wn oo) (fun i _ => l.length - (intOf i).toNat)
                case atStart => exact ⟨0, Nat.zero_le _, rfl, HO1.out.congr fun j _ => by rw [if_neg (by omega)], HB1.out⟩
                case round =>
                  clear HB1 HO1
                  obtain ⟨j, hj, rfl, hrow, hbx⟩ := hrel
                  have HO := hid hrow
                  have HB := hid hbx
                  clear hrow hbx
                  by_cases hjl : j < l.length
                  · have hjl' : (j : Int) < (l.length : Int) := by omega
                    have o1 := HO.out.cell hjl
                    rw [if_neg (Nat.lt_irrefl _)] at o1
                    have o2 := HO.out.frozen j
                    have o3 := HO.out.lt
                    have q1 := rvals_cell HB.out.mem.hown hkm
                    have q2 := (HB.out.mem.hI k hkm).cell hjl
                    have HT := hid (Plain.onK_take (n := l.length) HS.out j)
                    obtain ⟨x, hx⟩ : ∃ x, x = Plain.onK l l.length m k j := ⟨_, rfl⟩
                    obtain ⟨y, hy⟩ : ∃ y, y = Plain.on l l.length m k j := ⟨_, rfl⟩
                    rw [← hx] at o1 HT
                    rw [← hy] at q2 HT
                    clear hx hy
                    cases x
                    · go_wp2
                      go_roundw
                      case rel => exact ⟨j + 1, by omega, by go_num, on_set HO.out (by rw [HT.out]; simp), HB.out.step ((Below.refl _ _).setCell (p := ⟨wo.heap.size + 1, j, none⟩) (Nat.le_refl _) _)⟩
                      case measure => simp [intOf]; omega
                    · go_wp2
                      go_roundw
                      case rel => exact ⟨j + 1, by omega, by go_num, on_set HO.out (by rw [HT.out]; simp), HB.out.step ((Below.refl _ _).setCell (p := ⟨wo.heap.size + 1, j, none⟩) (Nat.le_refl _) _)⟩
                      case measure => simp [intOf]; omega
                  · have ej : j = l.length := by omega
                    have HO2 := hid (show wr.rowIs (wo.heap.size + 1) 4 l.length (fun t => .bool (Plain.onK l l.length m (k + 1) t)) from HO.out.congr fun t ht => by rw [if_pos (by omega)])
                    clear HO
                    go_wp2
                    go_roundw
                    case rel => first | exact ⟨k + 1, by omega, by go_num, HO2.out, HB.out⟩ | ((repeat apply Exists.intro); refine ⟨⟨k + 1, by omega, ?_, HO2.out, HB.out⟩, rfl⟩; go_num)
                    case measure => simp [intOf]; omega
              · have hsb : (wk != wn) = true := bne_iff_ne.2 hs
                have HS := hid (show Plain.stepB l m k = false by rw [HK.out]; simp [hs])
                go_wp2
                go_quiet (fail)
                go_wp2
                go_roundw
                case rel => exact ⟨k + 1, by omega, by go_num, (rowIs_drewN HO.out _).congr fun j _ => by rw [Plain.onK_skip HS.out], HB.out.drewN _⟩
                case measure => simp [intOf]; omega
            · have ek : m = k := by omega
              subst ek
              obtain ⟨i1, hi, hz0, hz1, hz2⟩ := info_parts Try.infoRowB
              go_wp2_with (first
                | (at_builtin; refine wpList_append_own _ rfl _ _ 47 rfl w.heap.size 48 i1 (.slice none 0 0) 1 24 Try.underlying47 hi hz0 hz1 hz2 rfl (by decide) _ _ _ rfl (HB.out.mem.hown.alloc _) ⟨wr.heap.size, 0, none⟩ 1 1 [.slice (some ⟨wo.heap.size + 1, 0, none⟩) l.length l.length] rfl rfl ?c1 ?c2 ?c3 ?c4 ?c5 ?_)
                | go_in)
              case c1 =>
                intro j u hj
                match j, hj with
                | 0, hj => simp at hj; subst hj; exact new_cell0 _ _ _
              case c2 => intro u hu; simp at hu; subst hu; rfl
              case c3 => unfold maxLen; omega
              case c4 => omega
              case c5 => have := HB.out.mem.bel.size; simp; omega
              intro vh' w1 hown' hgrow _
              have RH := hid (RI.hang HB.out.ri HB.out.bel HO.out hgrow hown')
              clear hown' hgrow hi hz0 hz1 hz2 HO HB
              have CE := hid (HC.out.below RH.out.bel hb)
              go_wp2
              clear hmk2
              go_loopw [142] (fun i wx => ∃ j : Nat, j ≤ l.length ∧ i = .int .i64 j ∧ wx.rowIs w1.heap.size 3 n (fun s => .int .i64 (Plain.tally l (Plain.on l l.length (m + 1) m) s j : Nat)) ∧ Below w1.heap.size w1 wx) (fun i _ => l.length - (intOf i).toNat)
              case atStart => exact ⟨0, Nat.zero_le _, rfl, (World.rowIs_made w1 (.int .i64 0) n 3).congr fun s _ => rfl, (Below.refl _ _).alloc (Nat.le_refl _) _⟩
              case round =>
                obtain ⟨j, hj, rfl, hrow, hbel⟩ := hrel
                have HO := hid hrow
                have HB := hid hbel
                clear hrow hbel
                by_cases hjl : j < l.length
                · have hjl' : (j : Int) < (l.length : Int) := by omega
                  have o1 := ((RH.out.grow HB.out).hI m (by omega)).cell hjl
                  simp only [if_true] at o1
                  obtain ⟨x, hx⟩ : ∃ x, x = Plain.on l l.length (m + 1) m j := ⟨_, rfl⟩
                  rw [← hx] at o1
                  have HXX := hid hx
                  clear hx
                  cases x
                  · go_wp2
                    go_roundw
                    case rel => exact ⟨j + 1, by omega, by go_num, tally_not HO.out HXX.out.symm, HB.out⟩
                    case measure => simp [intOf]; omega
                  · have hjm := Plain.on_le l l.length (m + 1) j hjl (m + 1) m (by omega) (by omega) HXX.out.symm
                    have hvj : Plain.evE n l j = 0 := by
                      by_cases c : j < m
                      · exact HV.out j c
                      · have : j = m := by omega
                        rw [this]; exact he
                    have hwj := Plain.evE_wh hvj
                    obtain ⟨_, e1, _⟩ := CE.out.below HB.out (Nat.lt_of_lt_of_le hb RH.out.bel.size) j hjl
                    have HJ := hid (show Plain.wh l j = (Plain.ev l j).2.1.toNat from rfl)
                    clear hvj
                    generalize (Plain.ev l j).2.1 = z at e1 HJ hwj
                    obtain ⟨wj, rfl⟩ := Int.eq_ofNat_of_zero_le hwj.1
                    have HJ2 := hid (show Plain.wh l j = wj by rw [HJ.out]; rfl)
                    have hwjn : wj < n := by omega
                    have hwjn' : (wj : Int) < (n : Int) := by omega
                    clear HJ hwj
                    have o2 := HO.out.cell hwjn
                    have o3 := HO.out.frozen wj
                    have o4 := HO.out.lt
                    have ht := Plain.tally_le l (Plain.on l l.length (m + 1) m) wj j
                    have HT := hid (tally_set (y := (Plain.tally l (Plain.on l l.length (m + 1) m) wj j : Nat) + 1) HO.out HXX.out.symm HJ2.out rfl)
                    generalize Plain.tally l (Plain.on l l.length (m + 1) m) wj j = tt at o2 ht HT
                    have ht2 : (tt : Int) ≤ 200 := by omega
                    go_wp2
                    go_roundw
                    case rel => exact ⟨j + 1, by omega, by go_num, HT.out, HB.out.setCell (p := ⟨w1.heap.size, wj, none⟩) (Nat.le_refl _) _⟩
                    case measure => simp [intOf]; omega
                · have ej : l.length = j := by omega
                  subst ej
                  obtain ⟨i1, hi, hz0, hz1, hz2⟩ := info_parts Try.infoRow
                  go_wp2_with (first
                    | (at_builtin; refine wpList_append_own _ rfl _ _ 31 rfl w.heap.size 22 i1 (.slice none 0 0) 1 24 Try.underlying31 hi hz0 hz1 hz2 rfl (by decide) _ _ _ rfl ((RH.out.grow HB.out).oown.alloc _) ⟨wr.heap.size, 0, none⟩ 1 1 [.slice (some ⟨w1.heap.size, 0, none⟩) n n] rfl rfl ?d1 ?d2 ?d3 ?d4 ?d5 ?_)
                    | go_in)
                  case d1 =>
                    intro j u hj
                    match j, hj with
                    | 0, hj => simp at hj; subst hj; exact new_cell0 _ _ _
                  case d2 => intro u hu; simp at hu; subst hu; rfl
                  case d3 => unfold maxLen; omega
                  case d4 => omega
                  case d5 => have := (RH.out.grow HB.out).bel.size; simp; omega
                  intro vo' w2 hown' hgrow _
                  have RO := hid (RI.out RH.out HB.out HO.out hgrow hown')
                  clear hown' hgrow hi hz0 hz1 hz2 HO HB
                  go_wp2
                  go_roundw
                  case rel => exact ⟨m + 1, _, _, by omega, by go_num, Plain.val_next HV.out he, RO.out⟩
                  case measure => simp [intOf]; omega
        · go_wp2
          clear mk0 mk1 mk2 hmk1
          go_loopw [11] (fun i wx => ∃ k : Nat, k ≤ m ∧ i = .int .i64 k ∧ wx.rowIs (wo.heap.size + 1) 4 l.length (fun j => .bool (Plain.onK l l.length m k j)) ∧ BX n l.length m l w wo wx u6 u7 gH gO b off 2 wn oo) (fun i _ => m - (intOf i).toNat)
          case atStart => exact ⟨0, Nat.zero_le _, rfl, on_start MK.out.1, HX.out.step MK.out.2⟩
          case round =>
            clear MK HX HR g0 g1 g2
            obtain ⟨k, hk, rfl, hrow, hbx⟩ := hrel
            have HO := hid hrow
            have HB := hid hbx
            clear hrow hbx
            by_cases hkm : k < m
            · have hkm' : (k : Int) < (m : Int) := by omega
              obtain ⟨_, e1, _⟩ := HB.out.ce k (by omega)
              have c0 := HB.out.c0
              have c1 := HB.out.c1
              have hkl : (k : Int) < (l.length : Int) := by omega
              obtain ⟨wk, hwk⟩ : ∃ wk, wk = (Plain.ev l k).2.1 := ⟨_, rfl⟩
              rw [← hwk] at e1
              have HK := hid (stepB_act HE.out (by decide) HW.out hwk (Plain.evE_wh (HV.out k hkm)))
              clear hwk
              by_cases hs : wk = wn
              · have HS := hid (show Plain.stepB l m k = true by rw [HK.out]; simp [hs])
                subst hs
                go_wp2
                go_quiet (fail)
                go_wp2
                obtain ⟨wq, hwq⟩ : ∃ wq, wq = wr.drewN nq := ⟨_, rfl⟩
                rw [← hwq]
                have HB1 := hid (show BX n l.length m l w wo wq u6 u7 gH gO b off 2 wn oo by rw [hwq]; exact HB.out.drewN nq)
                have HO1 := hid (show wq.rowIs (wo.heap.size + 1) 4 l.length (fun j => .bool (Plain.onK l l.length m k j)) by rw [hwq]; exact rowIs_drewN HO.out nq)
                clear hwq e1 c0 c1 HO HB
                obtain ⟨gh, ch, hvh⟩ := owns_some HB1.out.ri.hown (show 0 < m by omega)
                subst hvh
                go_loopw [114] (fun i wx => ∃ j : Nat, j ≤ l.length ∧ i = .int .i64 j ∧ wx.rowIs (wo.heap.size + 1) 4 l.length (fun t => .bool (if t < j then Plain.onK l l.length m (k + 1) t else Plain.onK l l.length m k t)) ∧ BX n l.length m l w wo wx (.slice (some ⟨gh, 0, none⟩) m ch) u7 gH gO b off 2 wn oo) (fun i _ => l.length - (intOf i).toNat)
                case atStart => exact ⟨0, Nat.zero_le _, rfl, HO1.out.congr fun j _ => by rw [if_neg (by omega)], HB1.out⟩
                case round =>
                  clear HB1 HO1
                  obtain ⟨j, hj, rfl, hrow, hbx⟩ := hrel
                  have HO := hid hrow
                  have HB := hid hbx
                  clear hrow hbx
                  by_cases hjl : j < l.length
                  · have hjl' : (j : Int) < (l.length : Int) := by omega
                    have o1 := HO.out.cell hjl
                    rw [if_neg (Nat.lt_irrefl _)] at o1
                    have o2 := HO.out.frozen j
                    have o3 := HO.out.lt
                    have q1 := rvals_cell HB.out.mem.hown hkm
                    have q2 := (HB.out.mem.hI k hkm).cell hjl
                    have HT := hid (Plain.onK_take (n := l.length) HS.out j)
                    obtain ⟨x, hx⟩ : ∃ x, x = Plain.onK l l.length m k j := ⟨_, rfl⟩
                    obtain ⟨y, hy⟩ : ∃ y, y = Plain.on l l.length m k j := ⟨_, rfl⟩
                    rw [← hx] at o1 HT
                    rw [← hy] at q2 HT
                    clear hx hy
                    cases x
                    · go_wp2
                      go_roundw
                      case rel => exact ⟨j + 1, by omega, by go_num, on_set HO.out (by rw [HT.out]; simp), HB.out.step ((Below.refl _ _).setCell (p := ⟨wo.heap.size + 1, j, none⟩) (Nat.le_refl _) _)⟩
                      case measure => simp [intOf]; omega
                    · go_wp2
                      go_roundw
                      case rel => exact ⟨j + 1, by omega, by go_num, on_set HO.out (by rw [HT.out]; simp), HB.out.step ((Below.refl _ _).setCell (p := ⟨wo.heap.size + 1, j, none⟩) (Nat.le_refl _) _)⟩
                      case measure => simp [intOf]; omega
                  · have ej : j = l.length := by omega
                    have HO2 := hid (show wr.rowIs (wo.heap.size + 1) 4 l.length (fun t => .bool (Plain.onK l l.length m (k + 1) t)) from HO.out.congr fun t ht => by rw [if_pos (by omega)])
                    clear HO
                    go_wp2
                    go_roundw
                    case rel => first | exact ⟨k + 1, by omega, by go_num, HO2.out, HB.out⟩ | ((repeat apply Exists.intro); refine ⟨⟨k + 1, by omega, ?_, HO2.out, HB.out⟩, rfl⟩; go_num)
                    case measure => simp [intOf]; omega
              · have hsb : (wk != wn) = true := bne_iff_ne.2 hs
                have HS := hid (show Plain.stepB l m k = false by rw [HK.out]; simp [hs])
                go_wp2
                go_quiet (fail)
                go_wp2
                go_roundw
                case rel => exact ⟨k + 1, by omega, by go_num, (rowIs_drewN HO.out _).congr fun j _ => by rw [Plain.onK_skip HS.out], HB.out.drewN _⟩
                case measure => simp [intOf]; omega
            · have ek : m = k := by omega
              subst ek
              obtain ⟨i1, hi, hz0, hz1, hz2⟩ := info_parts Try.infoRowB
              go_wp2_with (first
                | (at_builtin; refine wpList_append_own _ rfl _ _ 47 rfl w.heap.size 48 i1 (.slice none 0 0) 1 24 Try.underlying47 hi hz0 hz1 hz2 rfl (by decide) _ _ _ rfl (HB.out.mem.hown.alloc _) ⟨wr.heap.size, 0, none⟩ 1 1 [.slice (some ⟨wo.heap.size + 1, 0, none⟩) l.length l.length] rfl rfl ?c1 ?c2 ?c3 ?c4 ?c5 ?_)
                | go_in)
              case c1 =>
                intro j u hj
                match j, hj with
                | 0, hj => simp at hj; subst hj; exact new_cell0 _ _ _
              case c2 => intro u hu; simp at hu; subst hu; rfl
              case c3 => unfold maxLen; omega
              case c4 => omega
              case c5 => have := HB.out.mem.bel.size; simp; omega
              intro vh' w1 hown' hgrow _
              have RH := hid (RI.hang HB.out.ri HB.out.bel HO.out hgrow hown')
              clear hown' hgrow hi hz0 hz1 hz2 HO HB
              have CE := hid (HC.out.below RH.out.bel hb)
              go_wp2
              clear hmk2
              go_loopw [142] (fun i wx => ∃ j : Nat, j ≤ l.length ∧ i = .int .i64 j ∧ wx.rowIs w1.heap.size 3 n (fun s => .int .i64 (Plain.tally l (Plain.on l l.length (m + 1) m) s j : Nat)) ∧ Below w1.heap.size w1 wx) (fun i _ => l.length - (intOf i).toNat)
              case atStart => exact ⟨0, Nat.zero_le _, rfl, (World.rowIs_made w1 (.int .i64 0) n 3).congr fun s _ => rfl, (Below.refl _ _).alloc (Nat.le_refl _) _⟩
              case round =>
                obtain ⟨j, hj, rfl, hrow, hbel⟩ := hrel
                have HO := hid hrow
                have HB := hid hbel
                clear hrow hbel
                by_cases hjl : j < l.length
                · have hjl' : (j : Int) < (l.length : Int) := by omega
                  have o1 := ((RH.out.grow HB.out).hI m (by omega)).cell hjl
                  simp only [if_true] at o1
                  obtain ⟨x, hx⟩ : ∃ x, x = Plain.on l l.length (m + 1) m j := ⟨_, rfl⟩
                  rw [← hx] at o1
                  have HXX := hid hx
                  clear hx
                  cases x
                  · go_wp2
                    go_roundw
                    case rel => exact ⟨j + 1, by omega, by go_num, tally_not HO.out HXX.out.symm, HB.out⟩
                    case measure => simp [intOf]; omega
                  · have hjm := Plain.on_le l l.length (m + 1) j hjl (m + 1) m (by omega) (by omega) HXX.out.symm
                    have hvj : Plain.evE n l j = 0 := by
                      by_cases c : j < m
                      · exact HV.out j c
                      · have : j = m := by omega
                        rw [this]; exact he
                    have hwj := Plain.evE_wh hvj
                    obtain ⟨_, e1, _⟩ := CE.out.below HB.out (Nat.lt_of_lt_of_le hb RH.out.bel.size) j hjl
                    have HJ := hid (show Plain.wh l j = (Plain.ev l j).2.1.toNat from rfl)
                    clear hvj
                    generalize (Plain.ev l j).2.1 = z at e1 HJ hwj
                    obtain ⟨wj, rfl⟩ := Int.eq_ofNat_of_zero_le hwj.1
                    have HJ2 := hid (show Plain.wh l j = wj by rw [HJ.out]; rfl)
                    have hwjn : wj < n := by omega
                    have hwjn' : (wj : Int) < (n : Int) := by omega
                    clear HJ hwj
                    have o2 := HO.out.cell hwjn
                    have o3 := HO.out.frozen wj
                    have o4 := HO.out.lt
                    have ht := Plain.tally_le l (Plain.on l l.length (m + 1) m) wj j
                    have HT := hid (tally_set (y := (Plain.tally l (Plain.on l l.length (m + 1) m) wj j : Nat) + 1) HO.out HXX.out.symm HJ2.out rfl)
                    generalize Plain.tally l (Plain.on l l.length (m + 1) m) wj j = tt at o2 ht HT
                    have ht2 : (tt : Int) ≤ 200 := by omega
                    go_wp2
                    go_roundw
                    case rel => exact ⟨j + 1, by omega, by go_num, HT.out, HB.out.setCell (p := ⟨w1.heap.size, wj, none⟩) (Nat.le_refl _) _⟩
                    case measure => simp [intOf]; omega
                · have ej : l.length = j := by omega
                  subst ej
                  obtain ⟨i1, hi, hz0, hz1, hz2⟩ := info_parts Try.infoRow
                  go_wp2_with (first
                    | (at_builtin; refine wpList_append_own _ rfl _ _ 31 rfl w.heap.size 22 i1 (.slice none 0 0) 1 24 Try.underlying31 hi hz0 hz1 hz2 rfl (by decide) _ _ _ rfl ((RH.out.grow HB.out).oown.alloc _) ⟨wr.heap.size, 0, none⟩ 1 1 [.slice (some ⟨w1.heap.size, 0, none⟩) n n] rfl rfl ?d1 ?d2 ?d3 ?d4 ?d5 ?_)
                    | go_in)
                  case d1 =>
                    intro j u hj
                    match j, hj with
                    | 0, hj => simp at hj; subst hj; exact new_cell0 _ _ _
                  case d2 => intro u hu; simp at hu; subst hu; rfl
                  case d3 => unfold maxLen; omega
                  case d4 => omega
                  case d5 => have := (RH.out.grow HB.out).bel.size; simp; omega
                  intro vo' w2 hown' hgrow _
                  have RO := hid (RI.out RH.out HB.out HO.out hgrow hown')
                  clear hown' hgrow hi hz0 hz1 hz2 HO HB
                  go_wp2
                  go_roundw
                  case rel => exact ⟨m + 1, _, _, by omega, by go_num, Plain.val_next HV.out he, RO.out⟩
                  case measure => simp [intOf]; omega
        · have ho := hof.out (by unfold Plain.kd; rw [HE.out])
          rw [HE.out] at ho
          simp only at ho
          obtain ⟨on, rfl⟩ := Int.eq_ofNat_of_zero_le ho.1
          have hon : on < m := by omega
          have honl : (on : Int) < (l.length : Int) := by omega
          have hon' : (on : Int) < (m : Int) := by omega
          have g3 := (HC.out.below HR.out.bel hb on (by omega)).1
          have hk2 : (Plain.ev l on).1 = 2 := by
            have := ho.2.2
            unfold Plain.kd Plain.ofp at this
            rw [HE.out] at this
            simpa using this
          rw [hk2] at g3
          clear ho hk2
          have hbb : b < wo.heap.size := HX.out.lt
          go_wp2
          clear mk0 mk1 mk2 hmk1
          go_loopw [11] (fun i wx => ∃ k : Nat, k ≤ m ∧ i = .int .i64 k ∧ wx.rowIs (wo.heap.size + 1) 4 l.length (fun j => .bool (Plain.onK l l.length m k j)) ∧ BX n l.length m l w wo wx u6 u7 gH gO b off 3 wn on) (fun i _ => m - (intOf i).toNat)
          case atStart => exact ⟨0, Nat.zero_le _, rfl, on_start MK.out.1, HX.out.step MK.out.2⟩
          case round =>
            clear MK HX HR g0 g1 g2
            obtain ⟨k, hk, rfl, hrow, hbx⟩ := hrel
            have HO := hid hrow
            have HB := hid hbx
            clear hrow hbx
            by_cases hkm : k < m
            · have hkm' : (k : Int) < (m : Int) := by omega
              obtain ⟨_, e1, _⟩ := HB.out.ce k (by omega)
              have c0 := HB.out.c0
              have c1 := HB.out.c1
              have c2 := HB.out.c2
              have hkl : (k : Int) < (l.length : Int) := by omega
              obtain ⟨wk, hwk⟩ : ∃ wk, wk = (Plain.ev l k).2.1 := ⟨_, rfl⟩
              rw [← hwk] at e1
              have HK := hid (stepB_hear HE.out HW.out hwk (Plain.evE_wh (HV.out k hkm)))
              clear hwk
              by_cases hs : wk = wn
              · have HS := hid (show Plain.stepB l m k = true by rw [HK.out]; simp [hs])
                subst hs
                go_wp2
                go_quiet (fail)
                go_wp2
                clear c2
                obtain ⟨wq, hwq⟩ : ∃ wq, wq = wr.drewN nq := ⟨_, rfl⟩
                rw [← hwq]
                have HB1 := hid (show BX n l.length m l w wo wq u6 u7 gH gO b off 3 wn on by rw [hwq]; exact HB.out.drewN nq)
                have HO1 := hid (show wq.rowIs (wo.heap.size + 1) 4 l.length (fun j => .bool (Plain.onK l l.length m k j)) by rw [hwq]; exact rowIs_drewN HO.out nq)
                clear hwq e1 c0 c1 HO HB
                obtain ⟨gh, ch, hvh⟩ := owns_some HB1.out.ri.hown (show 0 < m by omega)
                subst hvh
                go_loopw [114] (fun i wx => ∃ j : Nat, j ≤ l.length ∧ i = .int .i64 j ∧ wx.rowIs (wo.heap.size + 1) 4 l.length (fun t => .bool (if t < j then Plain.onK l l.length m (k + 1) t else Plain.onK l l.length m k t)) ∧ BX n l.length m l w wo wx (.slice (some ⟨gh, 0, none⟩) m ch) u7 gH gO b off 3 wn on) (fun i _ => l.length - (intOf i).toNat)
                case atStart => exact ⟨0, Nat.zero_le _, rfl, HO1.out.congr fun j _ => by rw [if_neg (by omega)], HB1.out⟩
                case round =>
                  clear HB1 HO1
                  obtain ⟨j, hj, rfl, hrow, hbx⟩ := hrel
                  have HO := hid hrow
                  have HB := hid hbx
                  clear hrow hbx
                  by_cases hjl : j < l.length
                  · have hjl' : (j : Int) < (l.length : Int) := by omega
                    have o1 := HO.out.cell hjl
                    rw [if_neg (Nat.lt_irrefl _)] at o1
                    have o2 := HO.out.frozen j
                    have o3 := HO.out.lt
                    have q1 := rvals_cell HB.out.mem.hown hkm
                    have q2 := (HB.out.mem.hI k hkm).cell hjl
                    have HT := hid (Plain.onK_take (n := l.length) HS.out j)
                    obtain ⟨x, hx⟩ : ∃ x, x = Plain.onK l l.length m k j := ⟨_, rfl⟩
                    obtain ⟨y, hy⟩ : ∃ y, y = Plain.on l l.length m k j := ⟨_, rfl⟩
                    rw [← hx] at o1 HT
                    rw [← hy] at q2 HT
                    clear hx hy
                    cases x
                    · go_wp2
                      go_roundw
                      case rel => exact ⟨j + 1, by omega, by go_num, on_set HO.out (by rw [HT.out]; simp), HB.out.step ((Below.refl _ _).setCell (p := ⟨wo.heap.size + 1, j, none⟩) (Nat.le_refl _) _)⟩
                      case measure => simp [intOf]; omega
                    · go_wp2
                      go_roundw
                      case rel => exact ⟨j + 1, by omega, by go_num, on_set HO.out (by rw [HT.out]; simp), HB.out.step ((Below.refl _ _).setCell (p := ⟨wo.heap.size + 1, j, none⟩) (Nat.le_refl _) _)⟩
                      case measure => simp [intOf]; omega
                  · have ej : j = l.length := by omega
                    have HO2 := hid (show wr.rowIs (wo.heap.size + 1) 4 l.length (fun t => .bool (Plain.onK l l.length m (k + 1) t)) from HO.out.congr fun t ht => by rw [if_pos (by omega)])
                    clear HO
                    go_wp2
                    go_roundw
                    case rel => first | exact ⟨k + 1, by omega, by go_num, HO2.out, HB.out⟩ | ((repeat apply Exists.intro); refine ⟨⟨k + 1, by omega, ?_, HO2.out, HB.out⟩, rfl⟩; go_num)
                    case measure => simp [intOf]; omega
              · have hsb : (wk != wn) = true := bne_iff_ne.2 hs
                by_cases hos : on = k
                · have HS := hid (show Plain.stepB l m k = true by rw [HK.out]; simp [hos])
                  have hob : ((on : Int) == (k : Int)) = true := by simp [hos]
                  go_wp2
                  go_quiet (fail)
                  go_wp2
                  clear c2
                  obtain ⟨wq, hwq⟩ : ∃ wq, wq = wr.drewN nq := ⟨_, rfl⟩
                  rw [← hwq]
                  have HB1 := hid (show BX n l.length m l w wo wq u6 u7 gH gO b off 3 wn on by rw [hwq]; exact HB.out.drewN nq)
                  have HO1 := hid (show wq.rowIs (wo.heap.size + 1) 4 l.length (fun j => .bool (Plain.onK l l.length m k j)) by rw [hwq]; exact rowIs_drewN HO.out nq)
                  clear hwq e1 c0 c1 HO HB
                  obtain ⟨gh, ch, hvh⟩ := owns_some HB1.out.ri.hown (show 0 < m by omega)
                  subst hvh
                  go_loopw [114] (fun i wx => ∃ j : Nat, j ≤ l.length ∧ i = .int .i64 j ∧ wx.rowIs (wo.heap.size + 1) 4 l.length (fun t => .bool (if t < j then Plain.onK l l.length m (k + 1) t else Plain.onK l l.length m k t)) ∧ BX n l.length m l w wo wx (.slice (some ⟨gh, 0, none⟩) m ch) u7 gH gO b off 3 wn on) (fun i _ => l.length - (intOf i).toNat)
                  case atStart => exact ⟨0, Nat.zero_le _, rfl, HO1.out.congr fun j _ => by rw [if_neg (by omega)], HB1.out⟩
                  case round =>
                    clear HB1 HO1
                    obtain ⟨j, hj, rfl, hrow, hbx⟩ := hrel
                    have HO := hid hrow
                    have HB := hid hbx
                    clear hrow hbx
                    by_cases hjl : j < l.length
                    · have hjl' : (j : Int) < (l.length : Int) := by omega
                      have o1 := HO.out.cell hjl
                      rw [if_neg (Nat.lt_irrefl _)] at o1
                      have o2 := HO.out.frozen j
                      have o3 := HO.out.lt
                      have q1 := rvals_cell HB.out.mem.hown hkm
                      have q2 := (HB.out.mem.hI k hkm).cell hjl
                      have HT := hid (Plain.onK_take (n := l.length) HS.out j)
                      obtain ⟨x, hx⟩ : ∃ x, x = Plain.onK l l.length m k j := ⟨_, rfl⟩
                      obtain ⟨y, hy⟩ : ∃ y, y = Plain.on l l.length m k j := ⟨_, rfl⟩
                      rw [← hx] at o1 HT
                      rw [← hy] at q2 HT
                      clear hx hy
                      cases x
                      · go_wp2
                        go_roundw
                        case rel => exact ⟨j + 1, by omega, by go_num, on_set HO.out (by rw [HT.out]; simp), HB.out.step ((Below.refl _ _).setCell (p := ⟨wo.heap.size + 1, j, none⟩) (Nat.le_refl _) _)⟩
                        case measure => simp [intOf]; omega
                      · go_wp2
                        go_roundw
                        case rel => exact ⟨j + 1, by omega, by go_num, on_set HO.out (by rw [HT.out]; simp), HB.out.step ((Below.refl _ _).setCell (p := ⟨wo.heap.size + 1, j, none⟩) (Nat.le_refl _) _)⟩
                        case measure => simp [intOf]; omega
                    · have ej : j = l.length := by omega
                      have HO2 := hid (show wr.rowIs (wo.heap.size + 1) 4 l.length (fun t => .bool (Plain.onK l l.length m (k + 1) t)) from HO.out.congr fun t ht => by rw [if_pos (by omega)])
                      clear HO
                      go_wp2
                      go_roundw
                      case rel => first | exact ⟨k + 1, by omega, by go_num, HO2.out, HB.out⟩ | ((repeat apply Exists.intro); refine ⟨⟨k + 1, by omega, ?_, HO2.out, HB.out⟩, rfl⟩; go_num)
                      case measure => simp [intOf]; omega
                · have hob : ((on : Int) == (k : Int)) = false := beq_false_of_ne (by omega)
                  have HS := hid (show Plain.stepB l m k = false by rw [HK.out]; simp [hs, hos])
                  go_wp2
                  go_quiet (fail)
                  go_wp2
                  go_roundw
                  case rel => exact ⟨k + 1, by omega, by go_num, (rowIs_drewN HO.out _).congr fun j _ => by rw [Plain.onK_skip HS.out], HB.out.drewN _⟩
                  case measure => simp [intOf]; omega
            · have ek : m = k := by omega
              subst ek
              obtain ⟨i1, hi, hz0, hz1, hz2⟩ := info_parts Try.infoRowB
              go_wp2_with (first
                | (at_builtin; refine wpList_append_own _ rfl _ _ 47 rfl w.heap.size 48 i1 (.slice none 0 0) 1 24 Try.underlying47 hi hz0 hz1 hz2 rfl (by decide) _ _ _ rfl (HB.out.mem.hown.alloc _) ⟨wr.heap.size, 0, none⟩ 1 1 [.slice (some ⟨wo.heap.size + 1, 0, none⟩) l.length l.length] rfl rfl ?c1 ?c2 ?c3 ?c4 ?c5 ?_)
                | go_in)
              case c1 =>
                intro j u hj
                match j, hj with
                | 0, hj => simp at hj; subst hj; exact new_cell0 _ _ _
              case c2 => intro u hu; simp at hu; subst hu; rfl
              case c3 => unfold maxLen; omega
              case c4 => omega
              case c5 => have := HB.out.mem.bel.size; simp; omega
              intro vh' w1 hown' hgrow _
              have RH := hid (RI.hang HB.out.ri HB.out.bel HO.out hgrow hown')
              clear hown' hgrow hi hz0 hz1 hz2 HO HB
              have CE := hid (HC.out.below RH.out.bel hb)
              go_wp2
              clear hmk2
              go_loopw [142] (fun i wx => ∃ j : Nat, j ≤ l.length ∧ i = .int .i64 j ∧ wx.rowIs w1.heap.size 3 n (fun s => .int .i64 (Plain.tally l (Plain.on l l.length (m + 1) m) s j : Nat)) ∧ Below w1.heap.size w1 wx) (fun i _ => l.length - (intOf i).toNat)
              case atStart => exact ⟨0, Nat.zero_le _, rfl, (World.rowIs_made w1 (.int .i64 0) n 3).congr fun s _ => rfl, (Below.refl _ _).alloc (Nat.le_refl _) _⟩
              case round =>
                obtain ⟨j, hj, rfl, hrow, hbel⟩ := hrel
                have HO := hid hrow
                have HB := hid hbel
                clear hrow hbel
                by_cases hjl : j < l.length
                · have hjl' : (j : Int) < (l.length : Int) := by omega
                  have o1 := ((RH.out.grow HB.out).hI m (by omega)).cell hjl
                  simp only [if_true] at o1
                  obtain ⟨x, hx⟩ : ∃ x, x = Plain.on l l.length (m + 1) m j := ⟨_, rfl⟩
                  rw [← hx] at o1
                  have HXX := hid hx
                  clear hx
                  cases x
                  · go_wp2
                    go_roundw
                    case rel => exact ⟨j + 1, by omega, by go_num, tally_not HO.out HXX.out.symm, HB.out⟩
                    case measure => simp [intOf]; omega
                  · have hjm := Plain.on_le l l.length (m + 1) j hjl (m + 1) m (by omega) (by omega) HXX.out.symm
                    have hvj : Plain.evE n l j = 0 := by
                      by_cases c : j < m
                      · exact HV.out j c
                      · have : j = m := by omega
                        rw [this]; exact he
                    have hwj := Plain.evE_wh hvj
                    obtain ⟨_, e1, _⟩ := CE.out.below HB.out (Nat.lt_of_lt_of_le hb RH.out.bel.size) j hjl
                    have HJ := hid (show Plain.wh l j = (Plain.ev l j).2.1.toNat from rfl)
                    clear hvj
                    generalize (Plain.ev l j).2.1 = z at e1 HJ hwj
                    obtain ⟨wj, rfl⟩ := Int.eq_ofNat_of_zero_le hwj.1
                    have HJ2 := hid (show Plain.wh l j = wj by rw [HJ.out]; rfl)
                    have hwjn : wj < n := by omega
                    have hwjn' : (wj : Int) < (n : Int) := by omega
                    clear HJ hwj
                    have o2 := HO.out.cell hwjn
                    have o3 := HO.out.frozen wj
                    have o4 := HO.out.lt
                    have ht := Plain.tally_le l (Plain.on l l.length (m + 1) m) wj j
                    have HT := hid (tally_set (y := (Plain.tally l (Plain.on l l.length (m + 1) m) wj j : Nat) + 1) HO.out HXX.out.symm HJ2.out rfl)
                    generalize Plain.tally l (Plain.on l l.length (m + 1) m) wj j = tt at o2 ht HT
                    have ht2 : (tt : Int) ≤ 200 := by omega
                    go_wp2
                    go_roundw
                    case rel => exact ⟨j + 1, by omega, by go_num, HT.out, HB.out.setCell (p := ⟨w1.heap.size, wj, none⟩) (Nat.le_refl _) _⟩
                    case measure => simp [intOf]; omega
                · have ej : l.length = j := by omega
                  subst ej
                  obtain ⟨i1, hi, hz0, hz1, hz2⟩ := info_parts Try.infoRow
                  go_wp2_with (first
                    | (at_builtin; refine wpList_append_own _ rfl _ _ 31 rfl w.heap.size 22 i1 (.slice none 0 0) 1 24 Try.underlying31 hi hz0 hz1 hz2 rfl (by decide) _ _ _ rfl ((RH.out.grow HB.out).oown.alloc _) ⟨wr.heap.size, 0, none⟩ 1 1 [.slice (some ⟨w1.heap.size, 0, none⟩) n n] rfl rfl ?d1 ?d2 ?d3 ?d4 ?d5 ?_)
                    | go_in)
                  case d1 =>
                    intro j u hj
                    match j, hj with
                    | 0, hj => simp at hj; subst hj; exact new_cell0 _ _ _
                  case d2 => intro u hu; simp at hu; subst hu; rfl
                  case d3 => unfold maxLen; omega
                  case d4 => omega
                  case d5 => have := (RH.out.grow HB.out).bel.size; simp; omega
                  intro vo' w2 hown' hgrow _
                  have RO := hid (RI.out RH.out HB.out HO.out hgrow hown')
                  clear hown' hgrow hi hz0 hz1 hz2 HO HB
                  go_wp2
                  go_roundw
                  case rel => exact ⟨m + 1, _, _, by omega, by go_num, Plain.val_next HV.out he, RO.out⟩
                  case measure => simp [intOf]; omega
      · have HF := hid (Plain.firstE_no (n := l.length) HV.out hlt he)
        have hbb : b < wo.heap.size := HX.out.lt
        by_cases hk : kk = 1 ∨ kk = 2 ∨ kk = 3
        · by_cases hw : ww < 0 ∨ (n : Int) ≤ ww
          · have H2 := hid (evE_who HE.out hk hw)
            clear he
            have hw2 : ww < 0 ∨ (¬ ww < 0 ∧ (n : Int) ≤ ww) := by omega
            clear hw
            rcases hk with rfl | rfl | rfl <;> rcases hw2 with hw | ⟨hw3, hw⟩
            all_goals
              go_wp2
              go_ret2
              exact .inr ⟨by rw [HF.out, H2.out]; decide, ret_pair rfl (by rw [HF.out, H2.out]; rfl), HX.out.ri.bel⟩
          · have hw1 : ¬ ww < 0 := by omega
            have hw2 : ww < (n : Int) := by omega
            clear hw
            by_cases h3 : kk = 3
            · subst h3
              by_cases ho : oo < 0 ∨ (m : Int) ≤ oo
              · have H2 := hid (evE_far HE.out ⟨by omega, hw2⟩ ho)
                clear he hk
                have ho2 : oo < 0 ∨ (¬ oo < 0 ∧ (m : Int) ≤ oo) := by omega
                clear ho
                rcases ho2 with ho | ⟨ho1, ho⟩
                all_goals
                  go_wp2
                  go_ret2
                  exact .inr ⟨by rw [HF.out, H2.out]; decide, ret_pair rfl (by rw [HF.out, H2.out]; rfl), HX.out.ri.bel⟩
              · obtain ⟨on, rfl⟩ := Int.eq_ofNat_of_zero_le (show 0 ≤ oo by omega)
                have hon : on < m := by omega
                have hon' : (on : Int) < (m : Int) := by omega
                have honl : (on : Int) < (l.length : Int) := by omega
                have g3 := (HC.out.below HR.out.bel hb on (by omega)).1
                by_cases h2 : (Plain.ev l on).1 = 2
                · exact absurd (evE_yes HE.out ⟨by omega, hw2⟩ hon h2) he
                · have H2 := hid (evE_no HE.out ⟨by omega, hw2⟩ hon h2)
                  clear he hk ho
                  generalize (Plain.ev l on).1 = z at g3 h2
                  have b2 : (z != 2) = true := bne_iff_ne.2 h2
                  go_wp2
                  go_ret2
                  exact .inr ⟨by rw [HF.out, H2.out]; decide, ret_pair rfl (by rw [HF.out, H2.out]; rfl), HX.out.ri.bel⟩
            · exact absurd (evE_act HE.out (by omega) ⟨by omega, hw2⟩) he
        · have k1 : ¬ kk = 1 := by omega
          have k2 : ¬ kk = 2 := by omega
          have k3 : ¬ kk = 3 := by omega
          have H2 := hid (evE_kind (S := n) HE.out k1 k2 k3)
          have b1 : (kk != 1) = true := bne_iff_ne.2 k1
          have b2 : (kk != 2) = true := bne_iff_ne.2 k2
          have b3 : (kk != 3) = true := bne_iff_ne.2 k3
          clear he hk
          go_wp2
          go_ret2
          exact .inr ⟨by rw [HF.out, H2.out]; decide, ret_pair rfl (by rw [HF.out, H2.out]; rfl), HX.out.ri.bel⟩
    · have em : m = l.length := by omega
      subst em
      have HF := hid (Plain.firstE_ok HV.out)
      go_wp2
      go_ret2
      exact .inl ⟨HF.out, _, _, _, _, rfl, HR.out⟩
end Go.Proofs.Ytlckhpfokijknad
