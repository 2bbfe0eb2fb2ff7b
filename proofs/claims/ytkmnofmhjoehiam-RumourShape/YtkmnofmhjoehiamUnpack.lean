/-
  A contract of wire.Unpack.
-/
import Derived.Test.YtkmnofmhjoehiamTake
namespace Go.Proofs.Ytkmnofmhjoehiam
open Go.RowKit

namespace Plain
def valAt (ws : List Int) (bl : List Nat) (j : Nat) : Nat := num (bitOf bl) (bitsN (ws.take j)) (ws.getD j 0).toNat
theorem vals_getD (ws : List Int) (bl : List Nat) (j : Nat) (h : j < ws.length) : (vals (bitOf bl) 0 (ws.map Int.toNat)).getD j 0 = valAt ws bl j := by
  have e : ws = ws.take (j + 1) ++ ws.drop (j + 1) := (List.take_append_drop _ _).symm
  have h2 := vals_take (bitOf bl) ws j h
  have hl : (vals (bitOf bl) 0 ((ws.take j).map Int.toNat)).length = j := by rw [vals_len, List.length_map, List.length_take]; omega
  have e2 : ws.map Int.toNat = (ws.take (j + 1)).map Int.toNat ++ (ws.drop (j + 1)).map Int.toNat := by rw [← List.map_append, List.take_append_drop]
  rw [e2, vals_append, h2, List.append_assoc, List.getD_eq_getElem?_getD, List.getElem?_append_right (by omega), hl, Nat.sub_self]
  rfl
def unpackI (ws : List Int) (bl : List Nat) : List Int := (unpackV ws bl).map (fun x : Nat => (x : Int))
theorem un_bad (ws : List Int) (bl : List Nat) (h : szE ws ≠ 0) : unpackE ws bl = szE ws ∧ unpackI ws bl = [] := by
  have e : unpackE ws bl = szE ws := by unfold unpackE; rw [if_neg h]
  exact ⟨e, by unfold unpackI unpackV; rw [if_neg (by omega)]; rfl⟩
theorem un_len (ws : List Int) (bl : List Nat) (h : szE ws = 0) (hl : bl.length ≠ szN ws) : unpackE ws bl = 4 ∧ unpackI ws bl = [] := by
  have e : unpackE ws bl = 4 := by unfold unpackE; rw [if_pos h, if_neg hl]
  exact ⟨e, by unfold unpackI unpackV; rw [if_neg (by omega)]; rfl⟩
theorem un_left (ws : List Int) (bl : List Nat) (h : szE ws = 0) (hl : bl.length = szN ws) (hx : num (bitOf bl) (bitsN ws) (8 * szN ws - bitsN ws) ≠ 0) : unpackE ws bl = 4 ∧ unpackI ws bl = [] := by
  have e : unpackE ws bl = 4 := by unfold unpackE; rw [if_pos h, if_pos hl, if_neg hx]
  exact ⟨e, by unfold unpackI unpackV; rw [if_neg (by omega)]; rfl⟩
theorem un_ok (ws : List Int) (bl : List Nat) (h : szE ws = 0) (hl : bl.length = szN ws) (hx : num (bitOf bl) (bitsN ws) (8 * szN ws - bitsN ws) = 0) :
    unpackE ws bl = 0 ∧ unpackI ws bl = (vals (bitOf bl) 0 (ws.map Int.toNat)).map (fun x : Nat => (x : Int)) := by
  have e : unpackE ws bl = 0 := by unfold unpackE; rw [if_pos h, if_pos hl, if_pos hx]
  exact ⟨e, by unfold unpackI unpackV; rw [if_pos e]⟩
theorem un_okw (ws : List Int) (k : Nat) (h : k < ws.length) (ha : ws.all okW = true) : 1 ≤ ws.getD k 0 ∧ ws.getD k 0 ≤ 60 := (okW_iff _).1 (all_get okW ws 0 k h ha)
theorem un_bits (ws : List Int) (k : Nat) (h : k < ws.length) : bitsN (ws.take k) + (ws.getD k 0).toNat ≤ bitsN ws := by
  have h1 := bitsN_take ws k h
  have h2 := bitsN_mono ws (k + 1)
  omega
end Plain

theorem segB_form {w : World} {u : Value} {bl : List Nat} (h : SegB w u bl) : ∃ p c, u = .slice p bl.length c := by
  rcases h with ⟨rfl, p, c, rfl⟩ | ⟨b, o, c, rfl, _⟩
  · exact ⟨p, c, rfl⟩
  · exact ⟨_, c, rfl⟩
theorem seg_form {w : World} {u : Value} {bl : List Int} (h : Seg w u bl) : ∃ p c, u = .slice p bl.length c := by
  rcases h with ⟨rfl, p, c, rfl⟩ | ⟨b, o, c, rfl, _⟩
  · exact ⟨p, c, rfl⟩
  · exact ⟨_, c, rfl⟩

theorem beq_zero_int (z : Nat) (h : z ≠ 0) : ((z : Int) != 0) = true := by rw [bne_iff_ne]; omega

set_option maxHeartbeats 1000000 in
theorem unpack_bad (v u : Value) (ws : List Int) (bl : List Nat) (hm : ws.length ≤ 9223372036854775807) (w : World) (h : Seg w v ws) (hz : Plain.szE ws ≠ 0) :
    Calls Try.prog 39 #[v, u] w fun e w' => e = .returned (.tuple #[.slice none 0 0, .int .i64 (Plain.unpackE ws bl : Nat)]) ∧ w' = w := by
  have H := hid h
  have HM := hid hm
  have HP := hid (Plain.un_bad ws bl hz)
  have HN := hid (beq_zero_int _ hz)
  clear h hm hz
  go_enter Try.func39, Try.ntmps39
  go_wp2_with fail
  refine (size_any v ws HM.out _ H.out).mono ?_
  rintro e wx ⟨rfl, hx⟩
  have hy := hx.symm
  clear hx
  subst hy
  have hne := HN.out
  generalize Plain.szE ws = z at *
  generalize Plain.szN ws = z' at *
  go_wp2
  go_ret2
  exact ⟨by rw [HP.out.1]; rfl, rfl⟩

set_option maxHeartbeats 1000000 in
theorem unpack_len (v : Value) (p : Option Addr) (c : Nat) (ws : List Int) (bl : List Nat) (hm : ws.length ≤ 9223372036854775807) (_hb : bl.length ≤ 9223372036854775807) (w : World) (h : Seg w v ws) (hz : Plain.szE ws = 0) (hl : bl.length ≠ Plain.szN ws) :
    Calls Try.prog 39 #[v, .slice p bl.length c] w fun e w' => e = .returned (.tuple #[.slice none 0 0, .int .i64 (Plain.unpackE ws bl : Nat)]) ∧ w' = w := by
  have H := hid h
  have HM := hid hm
  have HZ := hid hz
  have HP := hid (Plain.un_len ws bl hz hl)
  have hne : ((bl.length : Int) != (Plain.szN ws : Int)) = true := by rw [bne_iff_ne]; omega
  have HN := hid hne
  clear h hm hz hl hne
  go_enter Try.func39, Try.ntmps39
  go_wp2_with fail
  refine (size_any v ws HM.out _ H.out).mono ?_
  rintro e wx ⟨rfl, hx⟩
  have hy := hx.symm
  clear hx
  subst hy
  rw [HZ.out]
  have hne := HN.out
  generalize Plain.szN ws = z' at *
  go_wp2
  go_ret2
  exact ⟨by rw [HP.out.1]; rfl, rfl⟩

set_option maxHeartbeats 1000000 in
theorem unpack_nil (p p2 : Option Addr) (c c2 : Nat) (w : World) :
    Calls Try.prog 39 #[.slice p 0 c, .slice p2 0 c2] w fun e w' => e = .returned (.tuple #[.slice (some ⟨w.heap.size, 0, none⟩) 0 0, .int .i64 0]) ∧ Below w.heap.size w w' := by
  have hmk : ∀ w : World, (Instr.makeSlice 22 (.int .i64 0) (.int .i64 0)).run Try.prog w = .ok (.slice (some ⟨w.heap.size, 0, none⟩) 0 0) (w.alloc (.cells (madeCells #[.int .i64 0] 0) 3)) :=
    run_make_row' (P := Try.prog) 22 3 (.int .i64 0) 8 Try.underlying22 Try.infoInt rfl .i64 .i64 0 (by omega) (by omega)
  go_enter Try.func39, Try.ntmps39
  go_wp2_with fail
  refine (size_nil p c _).mono ?_
  rintro e wx ⟨rfl, hx⟩
  have hy := hx.symm
  clear hx
  subst hy
  rw [show Plain.szN [] = 0 from rfl, show Plain.szE [] = 0 from rfl]
  go_wp2
  refine wp_loop_rounds 1 ?_
  rw [rounds_succ]
  go_wp2_with fail
  refine (take_zero _ 0 (by omega) _).mono ?_
  rintro e wx ⟨rfl, hx⟩
  have hy := hx.symm
  clear hx
  subst hy
  go_wp2
  go_ret2
  exact ⟨rfl, (Below.refl _ _).alloc (Nat.le_refl _) _⟩

theorem un_step {wr w : World} {k n q : Nat} {ws : List Int} {bl : List Nat} {x : Nat} (hx : Plain.valAt ws bl k = x)
    (hrow : wr.rowIs w.heap.size 3 n (fun j => if j < k then .int .i64 (Plain.valAt ws bl j : Nat) else .int .i64 0)) (hbel : Below w.heap.size w wr) :
    ((wr.drewN q).setCell ⟨w.heap.size, k, none⟩ (.int .i64 x)).rowIs w.heap.size 3 n (fun j => if j < k + 1 then .int .i64 (Plain.valAt ws bl j : Nat) else .int .i64 0) ∧
      Below w.heap.size w ((wr.drewN q).setCell ⟨w.heap.size, k, none⟩ (.int .i64 x)) := by
  have hrow' : (wr.drewN q).rowIs w.heap.size 3 n (fun j => if j < k then .int .i64 (Plain.valAt ws bl j : Nat) else .int .i64 0) := hrow
  refine ⟨(hrow'.set k (.int .i64 x)).congr fun j _ => ?_, (below_drewN hbel q).setCell (p := ⟨w.heap.size, k, none⟩) (Nat.le_refl _) _⟩
  by_cases c : j = k
  · subst c; rw [if_pos rfl, if_pos (by omega), hx]
  · rw [if_neg c]
    by_cases d : j < k
    · rw [if_pos d, if_pos (by omega)]
    · rw [if_neg d, if_neg (by omega)]

set_option maxHeartbeats 2000000 in
theorem unpack_some (b off cap bb ob cb : Nat) (ws : List Int) (bl : List Nat) (hbl : ∀ x ∈ bl, x < 256) (w : World)
    (h : ∀ j, j < ws.length → w.cell? ⟨b, off + j, none⟩ = some (.int .i64 (ws.getD j 0))) (hb : 0 < ws.length → b < w.heap.size)
    (h2 : ∀ j, j < bl.length → w.cell? ⟨bb, ob + j, none⟩ = some (.int .u8 (bl.getD j 0 : Nat))) (hb2 : 0 < bl.length → bb < w.heap.size)
    (hz : Plain.szE ws = 0) (hl : bl.length = Plain.szN ws) :
    Calls Try.prog 39 #[.slice (some ⟨b, off, none⟩) ws.length cap, .slice (some ⟨bb, ob, none⟩) bl.length cb] w fun e w' => ∃ r, e = .returned (.tuple #[r, .int .i64 (Plain.unpackE ws bl : Nat)]) ∧
      Seg w' r (Plain.unpackI ws bl) ∧ Lies w'.heap.size r ∧ Below w.heap.size w w' := by
  have H := hid h
  have H2 := hid h2
  have HBL := hid hbl
  have HB2 := hid hb2
  have hsz := Plain.szE_zero _ hz
  have hlen : ws.length ≤ 40 := hsz.1
  have HA := hid hsz.2.1
  have HN := hid hsz.2.2.1
  have HT := hid hsz.2.2.2
  have HZ := hid hz
  have HL := hid hl
  have hn300 := Plain.szN_le ws
  have hbl300 : bl.length ≤ 300 := by omega
  have hmk := run_make_row' (P := Try.prog) 22 3 (.int .i64 0) 8 Try.underlying22 Try.infoInt rfl .i64 .i64 ws.length (by omega) (by omega)
  have HMK := hid hmk
  clear h hz hsz h2 hl hbl hb2 hmk
  go_enter Try.func39, Try.ntmps39
  go_wp2_with fail
  refine (size_any _ ws (by omega) _ (.inr ⟨b, off, cap, rfl, H.out⟩)).mono ?_
  rintro e wx ⟨rfl, hx⟩
  have hy := hx.symm
  clear hx
  subst hy
  rw [HZ.out, ← HL.out]
  have hmk := HMK.out
  clear HMK
  go_wp2
  clear hmk
  go_loopw [9, 29] (fun a i wr => ∃ k : Nat, k ≤ ws.length ∧ i = .int .i64 k ∧ a = .int .i64 (Plain.bitsN (ws.take k) : Nat) ∧
      wr.rowIs w.heap.size 3 ws.length (fun j => if j < k then .int .i64 (Plain.valAt ws bl j : Nat) else .int .i64 0) ∧ Below w.heap.size w wr)
    (fun _ i _ => ws.length - (intOf i).toNat)
  case atStart => exact ⟨0, Nat.zero_le _, rfl, rfl, World.rowIs_made w (.int .i64 0) ws.length 3, (Below.refl _ _).alloc (Nat.le_refl _) _⟩
  case round =>
    obtain ⟨k, hk, rfl, rfl, hrow, hbel⟩ := hrel
    have HC2 := hid (fun j (hj : j < bl.length) => (hbel.cell (p := ⟨bb, ob + j, none⟩) (HB2.out (by omega))).trans (H2.out j hj))
    by_cases hlt : k < ws.length
    · have g := (hbel.cell (p := ⟨b, off + k, none⟩) (hb (by omega))).trans (H.out k hlt)
      have hok := Plain.un_okw ws k hlt HA.out
      have hbit := Plain.un_bits ws k hlt
      have hbs := Plain.bitsN_take ws k hlt
      have hva : Plain.valAt ws bl k = Plain.num (Plain.bitOf bl) (Plain.bitsN (ws.take k)) (ws.getD k 0).toNat := rfl
      have hlt' : (k : Int) < (ws.length : Int) := by omega
      have hfro := hrow.frozen k
      have hcel := hrow.cell hlt
      have HR := hid hrow
      have HBE := hid hbel
      clear hrow hbel
      generalize ws.getD k 0 = x at g hok hbit hbs hva
      obtain ⟨xn, rfl⟩ := Int.eq_ofNat_of_zero_le (show 0 ≤ x by omega)
      rw [Int.toNat_natCast] at hbit hbs hva
      have HBS := hid hbs
      clear hbs
      have hfit : Plain.bitsN (ws.take k) + xn ≤ 8 * bl.length := by have := HN.out; have := HL.out; omega
      clear hbit
      generalize ha : Plain.bitsN (ws.take k) = a at hfit hva
      have HAA := hid ha
      have HVA := hid hva
      clear ha hva
      have hxn : xn ≤ 60 := by omega
      clear hok
      go_wp2_with fail
      refine (take_any bb ob cb a xn bl HBL.out hfit (by omega) hxn _ HC2.out).mono ?_
      rintro e w2 ⟨rfl, q, rfl⟩
      generalize hX : Plain.num (Plain.bitOf bl) a xn = X at *
      have R := hid (un_step (q := q) HVA.out HR.out HBE.out)
      go_wp2
      go_roundw
      case rel => exact ⟨k + 1, by omega, by go_num, by rw [HBS.out, HAA.out]; go_num, R.out.1, R.out.2⟩
      case measure => simp [intOf]; omega
    · have ek : k = ws.length := by omega
      subst ek
      rw [List.take_length]
      have hT := HT.out
      have hTn : Plain.bitsN ws ≤ 8 * bl.length ∧ 8 * bl.length - Plain.bitsN ws ≤ 60 := by have := HN.out; have := HL.out; omega
      have HX0 := hid (Plain.un_left ws bl HZ.out HL.out)
      have HX1 := hid (Plain.un_ok ws bl HZ.out HL.out)
      rw [← HL.out] at HX0 HX1
      generalize Plain.bitsN ws = T at *
      obtain ⟨m, hm⟩ : ∃ m, m = 8 * bl.length - T := ⟨_, rfl⟩
      rw [← hm] at HX0 HX1
      have hmm : 8 * (bl.length : Int) - (T : Int) = (m : Int) := by omega
      have hm60 : m ≤ 60 := by omega
      have hfit : T + m ≤ 8 * bl.length := by omega
      have HM := hid hm
      have HMM := hid hmm
      have HR := hid hrow
      have HBE := hid hbel
      clear hrow hbel hm hmm
      go_wp2_with fail
      rw [HMM.out]
      refine (take_any bb ob cb T m bl HBL.out hfit (by omega) hm60 _ HC2.out).mono ?_
      rintro e w2 ⟨rfl, q, rfl⟩
      by_cases hX : Plain.num (Plain.bitOf bl) T m = 0
      · rw [hX]
        have HF := hid (HX1.out hX)
        clear hX
        go_wp2
        go_ret2
        refine ⟨_, by rw [HF.out.1]; rfl, ?_, lies_at HR.out.lt, below_drewN HBE.out q⟩
        rw [HF.out.2]
        refine .inr ⟨w.heap.size, 0, ws.length, by rw [List.length_map, Plain.vals_len, List.length_map], fun j hj => ?_⟩
        rw [List.length_map, Plain.vals_len, List.length_map] at hj
        have e := Plain.vals_getD ws bl j hj
        have hc := HR.out.cell hj
        rw [if_pos hj] at hc
        rw [Nat.zero_add, World.cell?_drewN, hc, ← e]
        have hl2 : j < (Plain.vals (Plain.bitOf bl) 0 (ws.map Int.toNat)).length := by rw [Plain.vals_len, List.length_map]; exact hj
        simp [List.getD_eq_getElem?_getD, List.getElem?_eq_getElem hl2]
      · have HF := hid (HX0.out hX)
        have hne := beq_zero_int _ hX
        clear hX
        generalize Plain.num (Plain.bitOf bl) T m = X at *
        go_wp2
        go_ret2
        exact ⟨_, by rw [HF.out.1]; rfl, by rw [HF.out.2]; exact Seg.nil _, lies_nil _ _ _, below_drewN HBE.out q⟩

/-- wire.Unpack at whatever widths and bytes. -/
theorem unpack_any (v u : Value) (ws : List Int) (bl : List Nat) (hbl : ∀ x ∈ bl, x < 256) (hm : ws.length ≤ 9223372036854775807) (hb : bl.length ≤ 9223372036854775807) (w : World)
    (h : Seg w v ws) (hv : Lies w.heap.size v) (h2 : SegB w u bl) (hu : Lies w.heap.size u) :
    Calls Try.prog 39 #[v, u] w fun e w' => ∃ r, e = .returned (.tuple #[r, .int .i64 (Plain.unpackE ws bl : Nat)]) ∧ Seg w' r (Plain.unpackI ws bl) ∧ Lies w'.heap.size r ∧ Below w.heap.size w w' := by
  by_cases hz : Plain.szE ws = 0
  · by_cases hl : bl.length = Plain.szN ws
    · rcases h with ⟨rfl, p, c, rfl⟩ | ⟨b, o, c, rfl, g⟩
      · obtain ⟨p2, c2, rfl⟩ := segB_form h2
        have hl0 : bl = [] := List.length_eq_zero_iff.1 hl
        subst hl0
        refine (unpack_nil p p2 c c2 w).mono ?_
        rintro e w' ⟨rfl, hb⟩
        exact ⟨_, rfl, .inl ⟨rfl, _, _, rfl⟩, lies_nil _ _ _, hb⟩
      · rcases h2 with ⟨rfl, p2, c2, rfl⟩ | ⟨b2, o2, c2, rfl, g2⟩
        · have hw0 : ws = [] := by
            have h3 := Plain.szE_zero ws hz
            cases ws with
            | nil => rfl
            | cons x xs =>
              have h4 := (Plain.okW_iff x).1 (by have := h3.2.1; simp only [List.all_cons, Bool.and_eq_true] at this; exact this.1)
              have h5 : Plain.bitsN (x :: xs) = x.toNat + Plain.bitsN xs := by simp [Plain.bitsN]
              have h6 : ([] : List Nat).length = 0 := rfl
              omega
          subst hw0
          refine (unpack_nil _ p2 c c2 w).mono ?_
          rintro e w' ⟨rfl, hb⟩
          exact ⟨_, rfl, .inl ⟨rfl, _, _, rfl⟩, lies_nil _ _ _, hb⟩
        · exact unpack_some b o c b2 o2 c2 ws bl hbl w g (fun hp => hv _ _ _ rfl hp) g2 (fun hp => hu _ _ _ rfl hp) hz hl
    · obtain ⟨p2, c2, rfl⟩ := segB_form h2
      refine (unpack_len v p2 c2 ws bl hm hb w h hz hl).mono ?_
      rintro e w' ⟨rfl, rfl⟩
      exact ⟨_, rfl, by rw [(Plain.un_len ws bl hz hl).2]; exact Seg.nil _, lies_nil _ _ _, Below.refl _ _⟩
  · refine (unpack_bad v u ws bl hm w h hz).mono ?_
    rintro e w' ⟨rfl, rfl⟩
    exact ⟨_, rfl, by rw [(Plain.un_bad ws bl hz).2]; exact Seg.nil _, lies_nil _ _ _, Below.refl _ _⟩
end Go.Proofs.Ytkmnofmhjoehiam
