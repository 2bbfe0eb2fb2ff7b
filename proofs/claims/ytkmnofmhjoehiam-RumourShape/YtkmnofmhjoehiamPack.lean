/-
  A contract of wire.Pack.
-/
import Derived.Test.YtkmnofmhjoehiamWidths
namespace Go.Proofs.Ytkmnofmhjoehiam
open Go.RowKit

namespace Plain
/-- The fields up to number k, as natural numbers. -/
theorem pk_take (l : List (Int × Int)) (k : Nat) (h : k < l.length) : rbits ((l.take (k + 1)).map nat2) = rbits ((l.take k).map nat2) ++ fbits (l.getD k (0, 0)).1.toNat (l.getD k (0, 0)).2.toNat := by
  rw [List.take_succ_eq_append_getElem h, List.map_append, rbits_append]
  simp [rbits, nat2, List.getD_eq_getElem?_getD, List.getElem?_eq_getElem h]
theorem pk_len (l : List (Int × Int)) : (rbits (l.map nat2)).length = bitsN (l.map Prod.fst) := by
  rw [rbits_len]
  simp [bitsN, nat2, Function.comp_def]
theorem pk_okw (l : List (Int × Int)) (k : Nat) (h : k < l.length) (ha : (l.map Prod.fst).all okW = true) : 1 ≤ (l.getD k (0, 0)).1 ∧ (l.getD k (0, 0)).1 ≤ 60 := by
  have := all_get okW (l.map Prod.fst) 0 k (by simpa using h) ha
  rw [okW_iff] at this
  simpa [List.getD_eq_getElem?_getD, List.getElem?_eq_getElem h] using this
theorem pk_bits (l : List (Int × Int)) (k : Nat) (h : k < l.length) : bitsN ((l.take k).map Prod.fst) + (l.getD k (0, 0)).1.toNat ≤ bitsN (l.map Prod.fst) := by
  have h1 := bitsN_take (l.map Prod.fst) k (by simpa using h)
  have h2 := bitsN_mono (l.map Prod.fst) (k + 1)
  rw [h1] at h2
  simp only [List.map_take]
  have e : (l.map Prod.fst).getD k 0 = (l.getD k (0, 0)).1 := by simp [List.getD_eq_getElem?_getD, List.getElem?_eq_getElem h]
  rw [e] at h2
  exact h2
theorem pk_bits_succ (l : List (Int × Int)) (k : Nat) (h : k < l.length) : bitsN ((l.take (k + 1)).map Prod.fst) = bitsN ((l.take k).map Prod.fst) + (l.getD k (0, 0)).1.toNat := by
  have h1 := bitsN_take (l.map Prod.fst) k (by simpa using h)
  simp only [List.map_take]
  have e : (l.map Prod.fst).getD k 0 = (l.getD k (0, 0)).1 := by simp [List.getD_eq_getElem?_getD, List.getElem?_eq_getElem h]
  rw [e] at h1
  exact h1
theorem packE_bad (l : List (Int × Int)) (h : szE (l.map Prod.fst) ≠ 0) : packE l = szE (l.map Prod.fst) ∧ packB l = [] := by
  have e : packE l = szE (l.map Prod.fst) := by unfold packE; rw [if_neg h]
  exact ⟨e, by unfold packB; rw [if_neg (by omega)]⟩
theorem packE_over (l : List (Int × Int)) (h : szE (l.map Prod.fst) = 0) (ha : l.all fitB = false) : packE l = 12 ∧ packB l = [] := by
  have e : packE l = 12 := by unfold packE; rw [if_pos h, if_neg (by simp [ha])]
  exact ⟨e, by unfold packB; rw [if_neg (by omega)]⟩
theorem packE_ok (l : List (Int × Int)) (h : szE (l.map Prod.fst) = 0) (ha : l.all fitB = true) : packE l = 0 ∧ packB l = bytesOf (rbits (l.map nat2)) (szN (l.map Prod.fst)) := by
  have e : packE l = 0 := by unfold packE; rw [if_pos h, if_pos ha]
  exact ⟨e, by unfold packB; rw [if_pos e]⟩
theorem fit_nat (x y : Int) (h : fitB (x, y) = true) (hx : x ≤ 60) : 0 ≤ y ∧ y.toNat < 2 ^ x.toNat ∧ y.toNat ≤ 1152921504606846976 := by
  unfold fitB at h
  simp only [Bool.and_eq_true, decide_eq_true_eq] at h
  have hp := pow60 x.toNat (by omega)
  obtain ⟨h1, h2⟩ := h
  obtain ⟨n, rfl⟩ := Int.eq_ofNat_of_zero_le h1
  have e : ((2 : Int) ^ x.toNat) = ((2 ^ x.toNat : Nat) : Int) := by simp
  rw [e] at h2
  rw [Int.toNat_natCast]
  omega
end Plain

set_option maxHeartbeats 1000000 in
theorem pack_bad (v : Value) (l : List (Int × Int)) (hm : l.length * 16 ≤ 140737488351232) (w : World) (h : SegF w v l) (hv : Lies w.heap.size v) (hz : Plain.szE (l.map Prod.fst) ≠ 0) :
    Calls Try.prog 34 #[v] w fun e w' => e = .returned (.tuple #[.slice none 0 0, .int .i64 (Plain.packE l : Nat)]) ∧ Below w.heap.size w w' := by
  have H := hid h
  have HV := hid hv
  have HM := hid hm
  have HP := hid (Plain.packE_bad l hz)
  have hne : ((Plain.szE (l.map Prod.fst) : Int) != 0) = true := by rw [bne_iff_ne]; omega
  have HN := hid hne
  clear h hv hm hz hne
  go_enter Try.func34, Try.ntmps34
  go_wp2_with fail
  refine (widths_any v l HM.out _ H.out HV.out).mono ?_
  rintro e w1 ⟨u, rfl, hs, hb⟩
  have HS := hid hs
  have HB := hid hb
  clear hs hb
  go_wp2_with fail
  refine (size_any u _ (by rw [List.length_map]; have := HM.out; omega) _ HS.out).mono ?_
  rintro e wx ⟨rfl, hx⟩
  have hy := hx.symm
  clear hx
  subst hy
  have hne := HN.out
  generalize Plain.szE (l.map Prod.fst) = z at *
  generalize Plain.szN (l.map Prod.fst) = z' at *
  go_wp2
  go_ret2
  exact ⟨by rw [HP.out.1]; rfl, HB.out⟩
theorem pk_of {w w' : World} {b t n : Nat} {f : Nat → Value} (h : w.rowIs b t n f) (hb : Below w.heap.size w w') : w'.rowIs b t n f := h.of_block (hb.block b h.lt)

theorem pk_cell2 {wr w2 : World} {c : Array Value} {t : Nat} (hb : Below (wr.alloc (.cells c t)).heap.size (wr.alloc (.cells c t)) w2) (i : Nat) (x : Value) (h : c[i]? = some x) :
    w2.cell? ⟨wr.heap.size, i, none⟩ = some x := by
  have h1 : (wr.alloc (.cells c t)).cell? ⟨wr.heap.size, i, none⟩ = some x := by
    have e := heap_alloc_new wr (.cells c t)
    unfold World.cell?
    rw [show (⟨wr.heap.size, i, none⟩ : Addr).block = wr.heap.size from rfl, e]
    exact h
  exact (hb.cell (p := ⟨wr.heap.size, i, none⟩) (by simp)).trans h1

theorem pk_far {w2 w3 : World} {bb B o : Nat} {x : Value} (hg : w2.grownBy w3 (some bb)) (hne : bb < B) (h : w2.cell? ⟨B, o, none⟩ = some x) : w3.cell? ⟨B, o, none⟩ = some x :=
  (World.cell?_of_block (w := w2) (a := ⟨B, o, none⟩) (hg.block B (World.block_lt_of_cell? (w := w2) (h := h)) (fun e => by have := Option.some.inj e; omega))).trans h

theorem pk_step {w wr w2 w3 : World} {bb n k : Nat} {o : Obj} {l : List (Int × Int)} {xn yn : Nat} (hk : k < l.length) (hx : (l.getD k (0, 0)).1 = xn) (hy : (l.getD k (0, 0)).2 = yn)
    (hB : w.heap.size ≤ bb) (hrow : bb < wr.heap.size) (h1 : Below w.heap.size w wr) (h2 : Below (wr.alloc o).heap.size (wr.alloc o) w2) (h3 : w2.grownBy w3 (some bb))
    (hr : w3.rowIs bb 5 n (fun j => .int .u8 (Plain.byteOf (Plain.at0 (Plain.rbits ((l.take k).map Plain.nat2) ++ Plain.fbits xn yn)) j : Nat)))
    (ha : (l.take k).all Plain.fitB = true) (hf : Plain.fitB ((xn : Int), (yn : Int)) = true) :
    w3.rowIs bb 5 n (fun j => .int .u8 (Plain.byteOf (Plain.at0 (Plain.rbits ((l.take (k + 1)).map Plain.nat2))) j : Nat)) ∧ Below w.heap.size w w3 ∧ (l.take (k + 1)).all Plain.fitB = true := by
  have hs : wr.heap.size ≤ (wr.alloc o).heap.size := by simp
  have hs2 := h2.size
  refine ⟨?_, ?_, Plain.all_take _ l (0, 0) k hk ha ?_⟩
  · rw [Plain.pk_take l k hk, hx, hy, Int.toNat_natCast, Int.toNat_natCast]
    exact hr
  · have h4 : Below w.heap.size w w2 := (h1.alloc h1.size o).trans (h2.mono (by have := h1.size; omega))
    exact h4.grown h3 h4.size (fun j hj => by injection hj with hj; omega)
  · have e : l.getD k (0, 0) = ((xn : Int), (yn : Int)) := by rw [← hx, ← hy]
    rw [e]; exact hf

set_option maxHeartbeats 2000000 in
theorem pack_some (b off cap : Nat) (l : List (Int × Int)) (w : World) 
    (h : ∀ j, j < l.length → w.cell? ⟨b, off + j * 2, none⟩ = some (.int .i64 (l.getD j (0, 0)).1) ∧ w.cell? ⟨b, off + j * 2 + 1, none⟩ = some (.int .i64 (l.getD j (0, 0)).2))
    (hb : 0 < l.length → b < w.heap.size) (hz : Plain.szE (l.map Prod.fst) = 0) :
    Calls Try.prog 34 #[.slice (some ⟨b, off, none⟩) l.length cap] w fun e w' => ∃ u, e = .returned (.tuple #[u, .int .i64 (Plain.packE l : Nat)]) ∧
      SegB w' u (Plain.packB l) ∧ Lies w'.heap.size u ∧ Below w.heap.size w w' := by
  have H := hid h
  have hsz := Plain.szE_zero _ hz
  rw [List.length_map] at hsz
  have hlen : l.length ≤ 40 := hsz.1
  have HA := hid hsz.2.1
  have HN := hid hsz.2.2.1
  have HT := hid hsz.2.2.2
  have HZ := hid hz
  clear h hz hsz
  go_enter Try.func34, Try.ntmps34
  go_wp2_with fail
  refine (widths_any _ l (by omega) _ (.inr ⟨b, off, cap, rfl, H.out⟩) (fun p n c e hp => by injection e with e1 e2 _; injection e1 with e1; subst e1; exact hb (by omega))).mono ?_
  rintro e w1 ⟨u, rfl, hs, hbe⟩
  have HS := hid hs
  have HB := hid hbe
  have hge := hbe.size
  clear hs hbe
  go_wp2_with fail
  refine (size_any u _ (by rw [List.length_map]; omega) _ HS.out).mono ?_
  rintro e wx ⟨rfl, hx⟩
  have hy := hx.symm
  clear hx
  subst hy
  rw [HZ.out]
  have hn300 := Plain.szN_le (l.map Prod.fst)
  generalize hn : Plain.szN (l.map Prod.fst) = n at *
  have HNN := hid hn
  clear hn
  have hmk := run_make_row' (P := Try.prog) 32 5 (.int .u8 0) 1 Try.underlying32 Try.infoByte rfl .i64 .i64 n (by omega) (by omega)
  go_wp2
  clear hmk
  go_loopw [7, 23] (fun a i wr => ∃ k : Nat, k ≤ l.length ∧ i = .int .i64 k ∧ a = .int .i64 (Plain.bitsN ((l.take k).map Prod.fst) : Nat) ∧
      wr.rowIs w1.heap.size 5 n (fun j => .int .u8 (Plain.byteOf (Plain.at0 (Plain.rbits ((l.take k).map Plain.nat2))) j : Nat)) ∧ Below w.heap.size w wr ∧ (l.take k).all Plain.fitB = true)
    (fun _ i _ => l.length - (intOf i).toNat)
  case atStart =>
    exact ⟨0, Nat.zero_le _, rfl, rfl, World.rowIs_made w1 (.int .u8 0) n 5, HB.out.alloc hge _, rfl⟩
  case round =>
    obtain ⟨k, hk, rfl, rfl, hrow, hbel, hall⟩ := hrel
    by_cases hlt : k < l.length
    · have g := H.out k hlt
      rw [← hbel.cell (p := ⟨b, off + k * 2, none⟩) (hb (by omega)), ← hbel.cell (p := ⟨b, off + k * 2 + 1, none⟩) (hb (by omega))] at g
      have hok := Plain.pk_okw l k hlt HA.out
      have hbit := Plain.pk_bits l k hlt
      have hbs := Plain.pk_bits_succ l k hlt
      have hlen0 := Plain.pk_len (l.take k)
      have g0 := g.1
      have g1 := g.2
      clear g
      have hlt' : (k : Int) < (l.length : Int) := by omega
      have hbbl := hrow.lt
      have HR := hid hrow
      have HBE := hid hbel
      have HAL := hid hall
      clear hrow hbel hall
      generalize hx : (l.getD k (0, 0)).1 = x at g0 hok hbit hbs
      generalize hy : (l.getD k (0, 0)).2 = y at g1
      obtain ⟨xn, rfl⟩ := Int.eq_ofNat_of_zero_le (show 0 ≤ x by omega)
      rw [Int.toNat_natCast] at hbit hbs
      have HX := hid hx
      have HY := hid hy
      have HBS := hid hbs
      have HL0 := hid hlen0
      clear hx hy hbs hlen0
      have hfit : Plain.bitsN ((l.take k).map Prod.fst) + xn ≤ 8 * n := by have := HN.out; have := HNN.out; omega
      clear hbit
      generalize ha : Plain.bitsN ((l.take k).map Prod.fst) = a at hfit
      have HAA := hid ha
      clear ha
      have hxn : xn ≤ 60 := by omega
      clear hok
      cases cf : Plain.fitB ((xn : Int), y)
      · have CF := hid cf
        clear cf
        go_wp2_with fail
        refine (fits_any xn y hxn _).mono ?_
        rintro e w2 ⟨rfl, hb2⟩
        have HB2 := hid hb2
        clear hb2
        rw [CF.out]
        have hpr : l.getD k (0, 0) = ((xn : Int), y) := by rw [← HX.out, ← HY.out]
        have HF := hid (Plain.packE_over l HZ.out (Plain.all_no Plain.fitB l (0, 0) k hlt (by rw [hpr]; exact CF.out)))
        clear hpr
        go_wp2
        go_ret2
        refine ⟨_, by rw [HF.out.1]; rfl, by rw [HF.out.2]; exact SegB.nil _, lies_nil _ _ _, ?_⟩
        exact (HBE.out.alloc HBE.out.size _).trans (HB2.out.mono (by have := HBE.out.size; simp; omega))
      · have hyn := Plain.fit_nat _ _ cf (by omega)
        obtain ⟨yn, rfl⟩ := Int.eq_ofNat_of_zero_le hyn.1
        rw [Int.toNat_natCast] at hyn
        have hyn3 := hyn.2.2
        have CF := hid cf
        clear cf hyn
        go_wp2_with fail
        refine (fits_any xn (yn : Int) hxn _).mono ?_
        rintro e w2 ⟨rfl, hb2⟩
        rw [CF.out]
        have c0 := pk_cell2 hb2 0 (.int .i64 xn) rfl
        have c1 := pk_cell2 hb2 1 (.int .i64 yn) rfl
        have hrow2 := pk_of (HR.out.alloc _) hb2
        have HB2 := hid hb2
        have HR2 := hid hrow2
        clear hb2 hrow2
        go_wp2_with fail
        refine (put_any w1.heap.size n n a xn yn _ (by rw [HL0.out, HAA.out]) (Plain.rbits_lt _) hfit (by omega) hxn hyn3 _ HR2.out).mono ?_
        rintro e w3 ⟨rfl, hrow3, hg3⟩
        have c2 := pk_far hg3 hbbl c0
        have R := hid (pk_step hlt HX.out HY.out hge hbbl HBE.out HB2.out hg3 hrow3 HAL.out CF.out)
        clear hrow3 hg3 c0 c1
        go_wp2
        go_roundw
        case rel => exact ⟨k + 1, by omega, by go_num, by rw [HBS.out, HAA.out]; go_num, R.out.1, R.out.2.1, R.out.2.2⟩
        case measure => simp [intOf]; omega
    · have ek : k = l.length := by omega
      subst ek
      rw [List.take_length] at hrow hall ⊢
      have HR := hid hrow
      have HBE := hid hbel
      have HF := hid (Plain.packE_ok l HZ.out hall)
      clear hrow hbel hall
      go_wp2
      go_ret2
      refine ⟨_, by rw [HF.out.1]; rfl, ?_, lies_at HR.out.lt, HBE.out⟩
      rw [HF.out.2, HNN.out]
      refine .inr ⟨w1.heap.size, 0, n, by rw [Plain.bytesOf_len], fun j hj => ?_⟩
      rw [Plain.bytesOf_len] at hj
      rw [Nat.zero_add, HR.out.cell hj, Plain.getD_bytesOf _ _ _ hj]
set_option maxHeartbeats 400000 in
theorem pack_nil (p : Option Addr) (cap : Nat) (w : World) :
    Calls Try.prog 34 #[.slice p 0 cap] w fun e w' => e = .returned (.tuple #[.slice (some ⟨w'.heap.size - 1, 0, none⟩) 0 0, .int .i64 0]) ∧ Below w.heap.size w w' := by
  have hmk : ∀ w : World, (Instr.makeSlice 32 (.int .i64 0) (.int .i64 0)).run Try.prog w = .ok (.slice (some ⟨w.heap.size, 0, none⟩) 0 0) (w.alloc (.cells (madeCells #[.int .u8 0] 0) 5)) :=
    run_make_row' (P := Try.prog) 32 5 (.int .u8 0) 1 Try.underlying32 Try.infoByte rfl .i64 .i64 0 (by omega) (by omega)
  go_enter Try.func34, Try.ntmps34
  go_wp2_with fail
  refine (widths_nil p cap _).mono ?_
  rintro e w1 ⟨rfl, hb⟩
  have HB := hid hb
  clear hb
  go_wp2_with fail
  refine (size_nil _ _ _).mono ?_
  rintro e wx ⟨rfl, hx⟩
  have hy := hx.symm
  clear hx
  subst hy
  rw [show Plain.szN [] = 0 from rfl, show Plain.szE [] = 0 from rfl]
  go_wp2
  refine wp_loop_rounds 1 ?_
  rw [rounds_succ]
  go_wp2
  go_ret2
  exact ⟨by simp, HB.out.alloc HB.out.size _⟩

/-- wire.Pack at whatever fields. -/
theorem pack_any (v : Value) (l : List (Int × Int)) (hm : l.length * 16 ≤ 140737488351232) (w : World) (h : SegF w v l) (hv : Lies w.heap.size v) :
    Calls Try.prog 34 #[v] w fun e w' => ∃ u, e = .returned (.tuple #[u, .int .i64 (Plain.packE l : Nat)]) ∧ SegB w' u (Plain.packB l) ∧ Lies w'.heap.size u ∧ Below w.heap.size w w' := by
  by_cases hz : Plain.szE (l.map Prod.fst) = 0
  · rcases h with ⟨rfl, p, c, rfl⟩ | ⟨b, o, c, rfl, g⟩
    · refine (pack_nil p c w).mono ?_
      rintro e w' ⟨rfl, hb⟩
      exact ⟨_, rfl, .inl ⟨rfl, _, _, rfl⟩, lies_nil _ _ _, hb⟩
    · exact pack_some b o c l w g (fun hp => hv _ _ _ rfl hp) hz
  · refine (pack_bad v l hm w h hv hz).mono ?_
    rintro e w' ⟨rfl, hb⟩
    exact ⟨_, rfl, by rw [(Plain.packE_bad l hz).2]; exact SegB.nil _, lies_nil _ _ _, hb⟩
end Go.Proofs.Ytkmnofmhjoehiam
