/-
  wire.Unpack once more: what it hands back is no longer than its room. frame.Heard: plain, and what lies in memory. frame.Heard.
-/
import Derived.Test.YtkmnofmhjoehialUnpack
import Derived.Test.YtkmnofmhjoehialQ6
import Derived.Test.YtkmnofmhjoehialQi
import Derived.Deep.RegionLaw
import Derived.Shelf.RegionOpenPlain
import Derived.Deep.RegionHeld3
import Derived.Deep.LoopGhost
import Derived.Deep.Cut
namespace Go.Proofs.Ytkmnofmhjoehial
open Go.ChangeShapes Go.WideShapes Go.ChangeAt Go.RowKit

/-- A slice is no longer than its room. -/
def CapL (v : Value) : Prop := ∀ p n c, v = .slice p n c → n ≤ c
theorem CapL.mk (p : Option Addr) (n c : Nat) (h : n ≤ c) : CapL (.slice p n c) := fun q m d e => by
  injection e with _ e2 e3
  omega

set_option maxHeartbeats 2000000 in
theorem unpackC_some (b off cap bb ob cb : Nat) (ws : List Int) (bl : List Nat) (hbl : ∀ x ∈ bl, x < 256) (w : World)
    (h : ∀ j, j < ws.length → w.cell? ⟨b, off + j, none⟩ = some (.int .i64 (ws.getD j 0))) (hb : 0 < ws.length → b < w.heap.size)
    (h2 : ∀ j, j < bl.length → w.cell? ⟨bb, ob + j, none⟩ = some (.int .u8 (bl.getD j 0 : Nat))) (hb2 : 0 < bl.length → bb < w.heap.size)
    (hz : Plain.szE ws = 0) (hl : bl.length = Plain.szN ws) :
    Calls Try.prog 53 #[.slice (some ⟨b, off, none⟩) ws.length cap, .slice (some ⟨bb, ob, none⟩) bl.length cb] w fun e w' => ∃ r, e = .returned (.tuple #[r, .int .i64 (Plain.unpackE ws bl : Nat)]) ∧
      Seg w' r (Plain.unpackI ws bl) ∧ Lies w'.heap.size r ∧ CapL r ∧ Below w.heap.size w w' := by
  have H := hid h
  have H2 := hid h2
  have HBL := hid hbl
  have HB2 := hid hb2
  have hsz := Plain.szE_zero _ hz
  have hlen : ws.length ≤ 40 := hsz.1
  have HA := hid hsz.2.1
  have HN := hid hsz.2.2.1
  have HT := hid hsz.2.2.2
  have HZ := hid hz
  have HL := hid hl
  have hn300 := Plain.szN_le ws
  have hbl300 : bl.length ≤ 300 := by omega
  have hmk := run_make_row' (P := Try.prog) 22 3 (.int .i64 0) 8 Try.underlying22 Try.infoInt rfl .i64 .i64 ws.length (by omega) (by omega)
  have HMK := hid hmk
  clear h hz hsz h2 hl hbl hb2 hmk
  go_enter Try.func53, Try.ntmps53
  go_wp2_with fail
  refine (size_any _ ws (by omega) _ (.inr ⟨b, off, cap, rfl, H.out⟩)).mono ?_
  rintro e wx ⟨rfl, hx⟩
  have hy := hx.symm
  clear hx
  subst hy
  rw [HZ.out, ← HL.out]
  have hmk := HMK.out
  clear HMK
  go_wp2
  clear hmk
  go_loopw [9, 29] (fun a i wr => ∃ k : Nat, k ≤ ws.length ∧ i = .int .i64 k ∧ a = .int .i64 (Plain.bitsN (ws.take k) : Nat) ∧
      wr.rowIs w.heap.size 3 ws.length (fun j => if j < k then .int .i64 (Plain.valAt ws bl j : Nat) else .int .i64 0) ∧ Below w.heap.size w wr)
    (fun _ i _ => ws.length - (intOf i).toNat)
  case atStart => exact ⟨0, Nat.zero_le _, rfl, rfl, World.rowIs_made w (.int .i64 0) ws.length 3, (Below.refl _ _).alloc (Nat.le_refl _) _⟩
  case round =>
    obtain ⟨k, hk, rfl, rfl, hrow, hbel⟩ := hrel
    have HC2 := hid (fun j (hj : j < bl.length) => (hbel.cell (p := ⟨bb, ob + j, none⟩) (HB2.out (by omega))).trans (H2.out j hj))
    by_cases hlt : k < ws.length
    · have g := (hbel.cell (p := ⟨b, off + k, none⟩) (hb (by omega))).trans (H.out k hlt)
      have hok := Plain.un_okw ws k hlt HA.out
      have hbit := Plain.un_bits ws k hlt
      have hbs := Plain.bitsN_take ws k hlt
      have hva : Plain.valAt ws bl k = Plain.num (Plain.bitOf bl) (Plain.bitsN (ws.take k)) (ws.getD k 0).toNat := rfl
      have hlt' : (k : Int) < (ws.length : Int) := by omega
      have hfro := hrow.frozen k
      have hcel := hrow.cell hlt
      have HR := hid hrow
      have HBE := hid hbel
      clear hrow hbel
      generalize ws.getD k 0 = x at g hok hbit hbs hva
      obtain ⟨xn, rfl⟩ := Int.eq_ofNat_of_zero_le (show 0 ≤ x by omega)
      rw [Int.toNat_natCast] at hbit hbs hva
      have HBS := hid hbs
      clear hbs
      have hfit : Plain.bitsN (ws.take k) + xn ≤ 8 * bl.length := by have := HN.out; have := HL.out; omega
      clear hbit
      generalize ha : Plain.bitsN (ws.take k) = a at hfit hva
      have HAA := hid ha
      have HVA := hid hva
      clear ha hva
      have hxn : xn ≤ 60 := by omega
      clear hok
      go_wp2_with fail
      refine (take_any bb ob cb a xn bl HBL.out hfit (by omega) hxn _ HC2.out).mono ?_
      rintro e w2 ⟨rfl, q, rfl⟩
      generalize hX : Plain.num (Plain.bitOf bl) a xn = X at *
      have R := hid (un_step (q := q) HVA.out HR.out HBE.out)
      go_wp2
      go_roundw
      case rel => exact ⟨k + 1, by omega, by go_num, by rw [HBS.out, HAA.out]; go_num, R.out.1, R.out.2⟩
      case measure => simp [intOf]; omega
    · have ek : k = ws.length := by omega
      subst ek
      rw [List.take_length]
      have hT := HT.out
      have hTn : Plain.bitsN ws ≤ 8 * bl.length ∧ 8 * bl.length - Plain.bitsN ws ≤ 60 := by have := HN.out; have := HL.out; omega
      have HX0 := hid (Plain.un_left ws bl HZ.out HL.out)
      have HX1 := hid (Plain.un_ok ws bl HZ.out HL.out)
      rw [← HL.out] at HX0 HX1
      generalize Plain.bitsN ws = T at *
      obtain ⟨m, hm⟩ : ∃ m, m = 8 * bl.length - T := ⟨_, rfl⟩
      rw [← hm] at HX0 HX1
      have hmm : 8 * (bl.length : Int) - (T : Int) = (m : Int) := by omega
      have hm60 : m ≤ 60 := by omega
      have hfit : T + m ≤ 8 * bl.length := by omega
      have HM := hid hm
      have HMM := hid hmm
      have HR := hid hrow
      have HBE := hid hbel
      clear hrow hbel hm hmm
      go_wp2_with fail
      rw [HMM.out]
      refine (take_any bb ob cb T m bl HBL.out hfit (by omega) hm60 _ HC2.out).mono ?_
      rintro e w2 ⟨rfl, q, rfl⟩
      by_cases hX : Plain.num (Plain.bitOf bl) T m = 0
      · rw [hX]
        have HF := hid (HX1.out hX)
        clear hX
        go_wp2
        go_ret2
        refine ⟨_, by rw [HF.out.1]; rfl, ?_, lies_at HR.out.lt, CapL.mk _ _ _ (Nat.le_refl _), below_drewN HBE.out q⟩
        rw [HF.out.2]
        refine .inr ⟨w.heap.size, 0, ws.length, by rw [List.length_map, Plain.vals_len, List.length_map], fun j hj => ?_⟩
        rw [List.length_map, Plain.vals_len, List.length_map] at hj
        have e := Plain.vals_getD ws bl j hj
        have hc := HR.out.cell hj
        rw [if_pos hj] at hc
        rw [Nat.zero_add, World.cell?_drewN, hc, ← e]
        have hl2 : j < (Plain.vals (Plain.bitOf bl) 0 (ws.map Int.toNat)).length := by rw [Plain.vals_len, List.length_map]; exact hj
        simp [List.getD_eq_getElem?_getD, List.getElem?_eq_getElem hl2]
      · have HF := hid (HX0.out hX)
        have hne := beq_zero_int _ hX
        clear hX
        generalize Plain.num (Plain.bitOf bl) T m = X at *
        go_wp2
        go_ret2
        exact ⟨_, by rw [HF.out.1]; rfl, by rw [HF.out.2]; exact Seg.nil _, lies_nil _ _ _, CapL.mk _ _ _ (Nat.zero_le _), below_drewN HBE.out q⟩

/-- wire.Unpack at whatever widths and bytes. -/
theorem unpackC_any (v u : Value) (ws : List Int) (bl : List Nat) (hbl : ∀ x ∈ bl, x < 256) (hm : ws.length ≤ 9223372036854775807) (hb : bl.length ≤ 9223372036854775807) (w : World)
    (h : Seg w v ws) (hv : Lies w.heap.size v) (h2 : SegB w u bl) (hu : Lies w.heap.size u) :
    Calls Try.prog 53 #[v, u] w fun e w' => ∃ r, e = .returned (.tuple #[r, .int .i64 (Plain.unpackE ws bl : Nat)]) ∧ Seg w' r (Plain.unpackI ws bl) ∧ Lies w'.heap.size r ∧ CapL r ∧ Below w.heap.size w w' := by
  by_cases hz : Plain.szE ws = 0
  · by_cases hl : bl.length = Plain.szN ws
    · rcases h with ⟨rfl, p, c, rfl⟩ | ⟨b, o, c, rfl, g⟩
      · obtain ⟨p2, c2, rfl⟩ := segB_form h2
        have hl0 : bl = [] := List.length_eq_zero_iff.1 hl
        subst hl0
        refine (unpack_nil p p2 c c2 w).mono ?_
        rintro e w' ⟨rfl, hb⟩
        exact ⟨_, rfl, .inl ⟨rfl, _, _, rfl⟩, lies_nil _ _ _, CapL.mk _ _ _ (Nat.zero_le _), hb⟩
      · rcases h2 with ⟨rfl, p2, c2, rfl⟩ | ⟨b2, o2, c2, rfl, g2⟩
        · have hw0 : ws = [] := by
            have h3 := Plain.szE_zero ws hz
            cases ws with
            | nil => rfl
            | cons x xs =>
              have h4 := (Plain.okW_iff x).1 (by have := h3.2.1; simp only [List.all_cons, Bool.and_eq_true] at this; exact this.1)
              have h5 : Plain.bitsN (x :: xs) = x.toNat + Plain.bitsN xs := by simp [Plain.bitsN]
              have h6 : ([] : List Nat).length = 0 := rfl
              omega
          subst hw0
          refine (unpack_nil _ p2 c c2 w).mono ?_
          rintro e w' ⟨rfl, hb⟩
          exact ⟨_, rfl, .inl ⟨rfl, _, _, rfl⟩, lies_nil _ _ _, CapL.mk _ _ _ (Nat.zero_le _), hb⟩
        · exact unpackC_some b o c b2 o2 c2 ws bl hbl w g (fun hp => hv _ _ _ rfl hp) g2 (fun hp => hu _ _ _ rfl hp) hz hl
    · obtain ⟨p2, c2, rfl⟩ := segB_form h2
      refine (unpack_len v p2 c2 ws bl hm hb w h hz hl).mono ?_
      rintro e w' ⟨rfl, rfl⟩
      exact ⟨_, rfl, by rw [(Plain.un_len ws bl hz hl).2]; exact Seg.nil _, lies_nil _ _ _, CapL.mk _ _ _ (Nat.zero_le _), Below.refl _ _⟩
  · refine (unpack_bad v u ws bl hm w h hz).mono ?_
    rintro e w' ⟨rfl, rfl⟩
    exact ⟨_, rfl, by rw [(Plain.un_bad ws bl hz).2]; exact Seg.nil _, lies_nil _ _ _, CapL.mk _ _ _ (Nat.zero_le _), Below.refl _ _⟩
set_option maxHeartbeats 2000000 in
theorem funpackC (wd : Int) (n : Nat) (hn : Cnt n) (u : Value) (bl : List Nat) (hbl : ∀ x ∈ bl, x < 256) (hb : bl.length ≤ 9223372036854775807) (w : World) (hs : SegB w u bl) (hl : Lies w.heap.size u) :
    Calls Try.prog 31 #[.int .i64 wd, .int .i64 n, u] w fun e w' => ∃ r, e = .returned (.tuple #[r, .int .i64 (Plain.unpackE (List.replicate n wd) bl : Nat)]) ∧ Seg w' r (Plain.unpackI (List.replicate n wd) bl) ∧ Lies w'.heap.size r ∧ CapL r ∧ Below w.heap.size w w' := by
  obtain ⟨W, hW⟩ : ∃ W, W = w.alloc (.cells #[.int .i64 wd] 3) := ⟨_, rfl⟩
  have bA : Below w.heap.size w W := by rw [hW]; exact (Below.refl _ _).alloc (Nat.le_refl _) _
  have c0 : W.cell? ⟨w.heap.size, 0, none⟩ = some (.int .i64 wd) := by rw [hW, World.cell?_alloc_at _ _ _ _ rfl]; rfl
  have K := repeat_any w.heap.size n wd hn W c0
  have HU := hid (fun (v : Value) (X : World) (b : Below w.heap.size w X) (h : Seg X v (List.replicate n wd)) (hv : Lies X.heap.size v) => unpackC_any v u (List.replicate n wd) bl hbl (by rw [List.length_replicate]; have := hn.le; omega) hb X h hv (hs.below b hl) (hl.mono b.size))
  have HB := hid bA
  clear bA c0 hs hl hbl hb
  rw [hW] at K
  have HW := hid hW
  clear hW
  go_enter Try.func31, Try.ntmps31
  go_wp2_with fail
  refine K.mono ?_
  rintro e w1 ⟨v, rfl, h1, h2, h3⟩
  rw [← HW.out] at h3
  have B1 := hid (HB.out.trans (h3.mono HB.out.size))
  have K2 := HU.out v w1 B1.out h1 h2
  clear K HU h1 h2 h3
  go_wp2_with fail
  refine K2.mono ?_
  rintro e w2 ⟨r, rfl, h1, h2, hc, h3⟩
  have R := hid (And.intro h1 (And.intro h2 (And.intro hc (B1.out.trans (h3.mono B1.out.size)))))
  clear h1 h2 h3 hc K2
  go_wp2
  go_ret2
  exact ⟨r, rfl, R.out⟩
end Go.Proofs.Ytkmnofmhjoehial
namespace Go.Proofs.Ytkmnofmhjoehial
open Go.RowKit Go.Shelf
namespace Plain
/-- The slots of the label number i, as a record tells them. -/
def slF (bl : List Nat) (i j : Nat) : Nat := num (bitOf bl) (34 * (i * 8 + j)) 34
theorem slF_lt (bl : List Nat) (i j : Nat) : slF bl i j < 17179869184 := num_lt (bitOf bl) (bitOf_lt bl) _ 34
/-- What a record tells of the label number j. -/
def toldV (ls : List Int) (a b : Int) (bl : List Nat) (j : Nat) : List En := if both (ls.getD j 0) a b = true then entV (slF bl (comL ls a b j).length) else []
def toldL (ls : List Int) (a b : Int) (bl : List Nat) : List (List En) := (List.range ls.length).map (toldV ls a b bl)
def comN (c : Cf) (a b : Int) : Nat := (comL c.ls a b c.ls.length).length
def goodS (bl : List Nat) (m : Nat) : Bool := (List.range m).all fun i => entE (slF bl i) == 0
def heaE (c : Cf) (a b : Int) (bl : List Nat) : Nat :=
  if refE c a b = 0 then (if unpackE (List.replicate (comN c a b * 8) 34) bl = 0 then (if goodS bl (comN c a b) = true then 0 else 4) else 4) else refE c a b
def heaV (c : Cf) (a b : Int) (bl : List Nat) : List (List En) := if heaE c a b bl = 0 then toldL c.ls a b bl else []
theorem hea_ref {c : Cf} {a b : Int} {bl : List Nat} (h : refE c a b ≠ 0) : heaE c a b bl = refE c a b ∧ heaV c a b bl = [] := by
  have e : heaE c a b bl = refE c a b := by unfold heaE; rw [if_neg h]
  exact ⟨e, by unfold heaV; rw [e, if_neg h]⟩
theorem hea_un {c : Cf} {a b : Int} {bl : List Nat} (h : refE c a b = 0) (h1 : unpackE (List.replicate (comN c a b * 8) 34) bl ≠ 0) : heaE c a b bl = 4 ∧ heaV c a b bl = [] := by
  have e : heaE c a b bl = 4 := by unfold heaE; rw [if_pos h, if_neg h1]
  exact ⟨e, by unfold heaV; rw [e]; rfl⟩
theorem hea_no {c : Cf} {a b : Int} {bl : List Nat} (h : refE c a b = 0) (h1 : unpackE (List.replicate (comN c a b * 8) 34) bl = 0) (h2 : goodS bl (comN c a b) = false) : heaE c a b bl = 4 ∧ heaV c a b bl = [] := by
  have e : heaE c a b bl = 4 := by unfold heaE; rw [if_pos h, if_pos h1, if_neg (by rw [h2]; decide)]
  exact ⟨e, by unfold heaV; rw [e]; rfl⟩
theorem hea_ok {c : Cf} {a b : Int} {bl : List Nat} (h : refE c a b = 0) (h1 : unpackE (List.replicate (comN c a b * 8) 34) bl = 0) (h2 : goodS bl (comN c a b) = true) : heaE c a b bl = 0 ∧ heaV c a b bl = toldL c.ls a b bl := by
  have e : heaE c a b bl = 0 := by unfold heaE; rw [if_pos h, if_pos h1, if_pos h2]
  exact ⟨e, by unfold heaV; rw [e]; rfl⟩
/-- Where a label stands among those in which both are. -/
theorem com_pos (ls : List Int) (a b : Int) (n k : Nat) (hk : k < (comL ls a b n).length) : (comL ls a b ((comL ls a b n).getD k 0)).length = k ∧ both (ls.getD ((comL ls a b n).getD k 0) 0) a b = true := by
  induction n with
  | zero => simp [comL] at hk
  | succ n ih =>
    rw [com_succ] at hk ⊢
    by_cases hb : both (ls.getD n 0) a b = true
    · rw [if_pos hb] at hk ⊢
      by_cases h : k < (comL ls a b n).length
      · rw [List.getD_eq_getElem?_getD, List.getElem?_append_left h, ← List.getD_eq_getElem?_getD]
        exact ih h
      · rw [List.length_append] at hk
        have e : k = (comL ls a b n).length := by simp at hk; omega
        rw [List.getD_eq_getElem?_getD, List.getElem?_append_right (by omega), e, Nat.sub_self]
        exact ⟨rfl, hb⟩
    · rw [if_neg hb] at hk ⊢
      exact ih hk
theorem com_mem {ls : List Int} {a b : Int} {n j : Nat} (hj : j < n) : j ∈ comL ls a b n ↔ both (ls.getD j 0) a b = true := by
  unfold comL
  rw [List.mem_filter, List.mem_range]
  exact ⟨fun h => h.2, fun h => ⟨hj, h⟩⟩
theorem bits34 (n j : Nat) (h : j ≤ n) : bitsN ((List.replicate n (34 : Int)).take j) = 34 * j := by
  rw [List.take_replicate, show min j n = j by omega]
  unfold bitsN
  rw [List.map_replicate, List.sum_replicate_nat]
  show j * 34 = _
  omega
/-- What is unpacked, slot by slot. -/
theorem un34 {n : Nat} {bl : List Nat} (h : unpackE (List.replicate n (34 : Int)) bl = 0) : (unpackI (List.replicate n (34 : Int)) bl).length = n ∧ ∀ j, j < n → (unpackI (List.replicate n (34 : Int)) bl).getD j 0 = ((num (bitOf bl) (34 * j) 34 : Nat) : Int) := by
  have hl : (vals (bitOf bl) 0 ((List.replicate n (34 : Int)).map Int.toNat)).length = n := by rw [vals_len, List.length_map, List.length_replicate]
  have e : unpackI (List.replicate n (34 : Int)) bl = (vals (bitOf bl) 0 ((List.replicate n (34 : Int)).map Int.toNat)).map (fun x : Nat => (x : Int)) := by
    unfold unpackI unpackV
    rw [if_pos h]
  rw [e]
  refine ⟨by rw [List.length_map, hl], fun j hj => ?_⟩
  have e2 := vals_getD (List.replicate n (34 : Int)) bl j (by rw [List.length_replicate]; exact hj)
  unfold valAt at e2
  rw [bits34 n j (by omega), rep_getD n 34 hj] at e2
  rw [List.getD_eq_getElem?_getD, List.getElem?_map, List.getElem?_eq_getElem (by rw [hl]; exact hj)]
  rw [List.getD_eq_getElem?_getD, List.getElem?_eq_getElem (by rw [hl]; exact hj)] at e2
  simp only [Option.getD_some] at e2
  simp only [Option.map_some, Option.getD_some]
  rw [e2]
  rfl
theorem good_no {bl : List Nat} {m i : Nat} (hi : i < m) (h : entE (slF bl i) ≠ 0) : goodS bl m = false := by
  unfold goodS
  rw [List.all_eq_false]
  exact ⟨i, List.mem_range.2 hi, by rw [beq_iff_eq]; exact h⟩
theorem good_succ {bl : List Nat} {k : Nat} (h : goodS bl k = true) (h1 : entE (slF bl k) = 0) : goodS bl (k + 1) = true := by
  unfold goodS at h ⊢
  rw [List.range_succ, List.all_append, h]
  simp [h1]
theorem entE_or (F : Nat → Nat) : entE F = 0 ∨ entE F = 4 := by
  unfold entE
  split
  · split
    · exact .inl rfl
    · exact .inr rfl
  · exact .inr rfl
end Plain
/-- A slice that is not empty does not lie in the block T. -/
def NotIn (T : Nat) (v : Value) : Prop := ∀ p n c, v = .slice (some p) n c → 0 < n → p.block ≠ T
theorem notIn_nil (T : Nat) (p : Option Addr) (c : Nat) : NotIn T (.slice p 0 c) := fun q n c' e hn => by injection e with _ e2 _; omega
theorem ElL.set {w : World} {u : Value} {l : List Plain.En} {T i : Nat} (h : ElL w u l) (hn : NotIn T u) (x : Value) : ElL (w.setCell ⟨T, i, none⟩ x) u l := by
  refine ⟨?_, fun p n c e hp => by have := h.li p n c e hp; simpa [World.setCell] using this, h.le⟩
  rcases h.sg with ⟨rfl, p1, c1, rfl⟩ | ⟨b1, o1, c1, rfl, hc1, g1⟩
  · exact .inl ⟨rfl, p1, c1, rfl⟩
  · refine .inr ⟨b1, o1, c1, rfl, hc1, fun j hj => ?_⟩
    have hb : b1 ≠ T := hn ⟨b1, o1, none⟩ _ _ rfl (by omega)
    have key : ∀ o, (w.setCell ⟨T, i, none⟩ x).cell? ⟨b1, o, none⟩ = w.cell? ⟨b1, o, none⟩ := fun o => World.cell?_of_block (w := w) (a := ⟨b1, o, none⟩) (RowKit.Below.heap_setCell w ⟨T, i, none⟩ x b1 hb)
    obtain ⟨c0, c1, c2, c3, c4⟩ := g1 j hj
    exact ⟨(key _).trans c0, (key _).trans c1, (key _).trans c2, (key _).trans c3, (key _).trans c4⟩
/-- Lists of entries, one behind the other. -/
structure ToI (w : World) (T n : Nat) (U : Nat → Value) (G : Nat → List Plain.En) : Prop where
  row : w.rowIs T 49 n U
  el : ∀ j, j < n → ElL w (U j) (G j) ∧ NotIn T (U j)
theorem ToI.grow {w w' : World} {T n : Nat} {U : Nat → Value} {G : Nat → List Plain.En} (h : ToI w T n U G) (b : Below w.heap.size w w') : ToI w' T n U G :=
  ⟨h.row.of_block (b.block _ h.row.lt), fun j hj => ⟨(h.el j hj).1.grow b, (h.el j hj).2⟩⟩
theorem ToI.set {w : World} {T n : Nat} {U : Nat → Value} {G : Nat → List Plain.En} (h : ToI w T n U G) (i : Nat) {u : Value} {l : List Plain.En} (hu : ElL w u l) (hn : NotIn T u) :
    ToI (w.setCell ⟨T, i, none⟩ u) T n (fun j => if j = i then u else U j) (fun j => if j = i then l else G j) := by
  refine ⟨(h.row.set i u).congr fun j _ => rfl, fun j hj => ?_⟩
  by_cases e : j = i
  · simp only [if_pos e]
    exact ⟨hu.set hn u, hn⟩
  · simp only [if_neg e]
    exact ⟨(h.el j hj).1.set (h.el j hj).2 u, (h.el j hj).2⟩
theorem ToI.congr {w : World} {T n : Nat} {U : Nat → Value} {G H : Nat → List Plain.En} (h : ToI w T n U G) (e : ∀ j, j < n → G j = H j) : ToI w T n U H :=
  ⟨h.row, fun j hj => by rw [← e j hj]; exact h.el j hj⟩
theorem ToI.segs {w : World} {T n c : Nat} {U : Nat → Value} {G : Nat → List Plain.En} (h : ToI w T n U G) (hn : n ≤ 1000) : SegLs w (.slice (some ⟨T, 0, none⟩) n c) ((List.range n).map G) := by
  refine ⟨by simp; omega, some ⟨T, 0, none⟩, c, by simp, fun _ => ⟨T, 0, rfl, h.row.lt, fun j hj => ?_⟩⟩
  rw [List.length_map, List.length_range] at hj
  refine ⟨U j, by rw [Nat.zero_add]; exact h.row.cell hj, ?_⟩
  rw [List.getD_eq_getElem?_getD, List.getElem?_map, List.getElem?_range hj]
  exact (h.el j hj).1
theorem Try.infoRowE : (Try.prog.info? 49).map (fun i => (i.zero, i.size, i.bytes)) = some (some (.slice none 0 0), 1, 24) := by kernel_rfl
theorem ToI.made (w : World) (n : Nat) : ToI (w.alloc (.cells (madeCells #[.slice none 0 0] n) 49)) w.heap.size n (fun _ => .slice none 0 0) (fun _ => []) :=
  ⟨World.rowIs_made w (.slice none 0 0) n 49, fun _ _ => ⟨⟨.inl ⟨rfl, _, _, rfl⟩, lies_nil _ _ _, by decide⟩, notIn_nil _ _ _⟩⟩
/-- copy of eight numbers into an array. -/
theorem copy8 {V : World} {S vb vo n c : Nat} {F : Nat → Int} {f : Nat → Value} (h : V.rowIs S 64 8 f) (hn : 8 ≤ n) (hs : ∀ j, j < 8 → V.cell? ⟨vb, vo + j, none⟩ = some (.int .i64 (F j))) :
    ∃ V', (∀ ty, (Builtin.copy_ #[22, 22] ty #[.slice (some ⟨S, 0, none⟩) 8 8, .slice (some ⟨vb, vo, none⟩) n c]).run Try.prog V = .ok (goInt ((8 : Nat) : Int)) V') ∧ V'.rowIs S 64 8 (fun j => .int .i64 (F j)) ∧ (∀ B, B ≤ S → Below B V V') := by
  obtain ⟨cur, hb, hsz, _⟩ := h
  have hlen : ((List.range 8).map fun j => Value.int .i64 (F j)).length = 8 := by simp
  refine ⟨V.setRow S (cur.toList.take 0 ++ ((List.range 8).map fun j => Value.int .i64 (F j)) ++ cur.toList.drop (0 + 8)).toArray, fun ty => ?_, ⟨_, setRow_heap V S cur _ 64 _ hb, ?_, fun i hi => ?_⟩, fun B hB => below_setRow (Below.refl _ _) hB _⟩
  · have := run_copy_row (P := Try.prog) V 22 22 ty 3 S 0 8 8 ⟨vb, vo, none⟩ n c cur 64 ((List.range 8).map fun j => Value.int .i64 (F j)) Try.underlying22 (by kernel_rfl) hb
      (by rw [hlen]; exact (Nat.min_eq_right hn).symm) (fun j v hj => by
        have hj8 : j < 8 := by
          rcases Nat.lt_or_ge j 8 with y | y
          · exact y
          · rw [List.getElem?_eq_none (by rw [hlen]; exact y)] at hj; cases hj
        rw [List.getElem?_map, List.getElem?_range hj8] at hj
        rw [add_at, hs j hj8]
        exact hj) (by rw [hlen, hsz]; omega) (fun v hv => by obtain ⟨x, _, rfl⟩ := List.mem_map.1 hv; rfl)
    rw [hlen] at this
    exact this
  · simp only [List.size_toArray, List.length_append, List.length_take, List.length_drop, hlen, Array.length_toList, hsz]; omega
  · simp only [List.take_zero, List.nil_append, List.getElem?_toArray]
    rw [List.getElem?_append_left (by rw [hlen]; exact hi), List.getElem?_map, List.getElem?_range hi]
    rfl
/-- What Heard leaves. -/
def HeaP (c : Plain.Cf) (a b : Int) (bl : List Nat) (w : World) (e : Ending) (w' : World) : Prop :=
  ∃ u, e = .returned (.tuple #[u, .int .i64 (Plain.heaE c a b bl : Nat)]) ∧ SegLs w' u (Plain.heaV c a b bl) ∧ Below w.heap.size w w'
theorem segLs_nil (w : World) : SegLs w (.slice none 0 0) [] := ⟨by decide, _, _, rfl, fun h => by simp at h⟩
theorem heaP_no {c : Plain.Cf} {a b : Int} {bl : List Nat} {w w' : World} {E : Nat} (h : Plain.heaE c a b bl = E ∧ Plain.heaV c a b bl = []) (g : Below w.heap.size w w') : HeaP c a b bl w (.returned (.tuple #[.slice none 0 0, .int .i64 (E : Nat)])) w' :=
  ⟨_, by rw [h.1], by rw [h.2]; exact segLs_nil _, g⟩
end Go.Proofs.Ytkmnofmhjoehial
namespace Go.Proofs.Ytkmnofmhjoehial
open Go.RowKit Go.Shelf

set_option maxHeartbeats 8000000 in
set_option maxRecDepth 100000 in
theorem heard_c (c : Plain.Cf) (lv mv u : Value) (x y : Int) (bl : List Nat) (hm : bl.length ≤ 9223372036854775807) (hr : ∀ z ∈ bl, z < 256) (w : World) (hI : CfI w c lv mv) (hs : SegB w u bl) (hl : Lies w.heap.size u) :
    Calls Try.prog 19 #[cfV c lv mv, .int .i64 x, .int .i64 y, u] w (HeaP c x y bl w) := by
  have B0 := hid (BcI.start hI)
  have HS := hid (fun (X : World) (b : Below w.heap.size w X) => And.intro (hs.below b hl) (hl.mono b.size))
  obtain ⟨lp, lc, rfl⟩ := seg_len hI.sl
  obtain ⟨mp, mc, rfl⟩ := seg_len hI.sm
  have KM := refuse_c c (.slice lp c.ls.length lc) (.slice mp c.ms.length mc) x y (w.alloc (boxC c (.slice lp c.ls.length lc) (.slice mp c.ms.length mc))) B0.out.ci
  obtain ⟨E, hE⟩ : ∃ E, E = Plain.refE c x y := ⟨_, rfl⟩
  rw [← hE] at KM
  clear hI hs hl
  by_cases h0 : E = 0
  · subst h0
    have hmay := (Plain.ref_may hE.symm).1
    have h4 := (Plain.may_all hmay).2.1
    have KC := hid (fun (X : World) (b : Nat) (I : CfI X c (.slice lp c.ls.length lc) (.slice mp c.ms.length mc)) (h1 : X.cell? ⟨b, 0, none⟩ = some (.int .i64 x)) (h2 : X.cell? ⟨b, 1, none⟩ = some (.int .i64 y)) => common_c c _ _ b x y hmay X I h1 h2)
    have H1 := hid (fun h => Plain.hea_un (bl := bl) hE.symm h)
    have H2 := hid (fun h2 h => Plain.hea_no (bl := bl) hE.symm h2 h)
    have H3 := hid (fun h2 h => Plain.hea_ok (bl := bl) hE.symm h2 h)
    have hJ := hid (fun j (h : j ∈ Plain.comL c.ls x y c.ls.length) => show j < c.ls.length from Plain.com_lt h)
    have hJ4 := Plain.com_len c.ls x y c.ls.length
    have HPO := hid (fun k h => Plain.com_pos c.ls x y c.ls.length k h)
    have HME := hid (fun j (h : j < c.ls.length) => Plain.com_mem (ls := c.ls) (a := x) (b := y) h)
    have hcn : Plain.comN c x y = (Plain.comL c.ls x y c.ls.length).length := rfl
    rw [hcn] at H1 H2 H3
    clear hE hmay hcn
    obtain ⟨js, hjs⟩ : ∃ js, js = Plain.comL c.ls x y c.ls.length := ⟨_, rfl⟩
    rw [← hjs] at hJ H1 H2 H3 hJ4 HPO HME
    simp only [← hjs] at KC
    have hj4 : js.length ≤ 4 := by omega
    clear hjs hJ4
    obtain ⟨m, hmj⟩ : ∃ m, m = js.length := ⟨_, rfl⟩
    rw [← hmj] at H1 H2 H3 hj4
    have KU := hid (fun (X : World) (b : Below w.heap.size w X) => show Calls Try.prog 31 #[.int .i64 34, .int .i64 ((m : Int) * 8), u] X fun e w' => ∃ r, e = .returned (.tuple #[r, .int .i64 (Plain.unpackE (List.replicate (m * 8) 34) bl : Nat)]) ∧ Seg w' r (Plain.unpackI (List.replicate (m * 8) 34) bl) ∧ Lies w'.heap.size r ∧ CapL r ∧ Below X.heap.size X w' by
      have := funpackC 34 (m * 8) (by unfold Cnt; omega) u bl hr hm X (HS.out X b).1 (HS.out X b).2
      rwa [show ((m * 8 : Nat) : Int) = (m : Int) * 8 by simp] at this)
    obtain ⟨E2, hE2⟩ : ∃ E2, E2 = Plain.unpackE (List.replicate (m * 8) 34) bl := ⟨_, rfl⟩
    have HU := hid (fun (h : E2 = 0) => Plain.un34 (n := m * 8) (bl := bl) (by rw [← hE2]; exact h))
    rw [← hE2] at H1 H2 H3
    simp only [← hE2] at KU
    obtain ⟨V, hV⟩ : ∃ V, V = Plain.unpackI (List.replicate (m * 8) 34) bl := ⟨_, rfl⟩
    rw [← hV] at HU
    simp only [← hV] at KU
    have HMJ := hid hmj
    clear hE2 hV hmj HS
    obtain ⟨n, ls, t, ms, cap⟩ := c
    dsimp only at *
    go_enter Try.func19, Try.ntmps19
    go_wp2_with fail
    refine KM.mono ?_
    rintro e w1 ⟨rfl, b1⟩
    have B1 := hid (B0.out.grow b1)
    obtain ⟨c0, c1, c2, c3, c4⟩ := B1.out.cc
    have bA : Below w1.heap.size w1 (w1.alloc (.cells #[.int .i64 x, .int .i64 y] 3)) := (Below.refl _ _).alloc (Nat.le_refl _) _
    have B3 := hid (B1.out.grow bA)
    have K := KC.out _ _ B3.out.ci (two_cells w1 x y).1 (two_cells w1 x y).2
    clear B0 KM b1 bA
    go_wp2_with fail
    refine K.mono ?_
    rintro e w4 ⟨jv, rfl, g1, g2, g3⟩
    have B4 := hid (B3.out.grow g3)
    obtain ⟨jp, jc, rfl⟩ := seg_len g1
    have HJ := hid (fun (X : World) (b : Below w4.heap.size w4 X) => seg_at (g1.below b g2))
    have hjl : (Plain.natsI js).length = m := by rw [Plain.natsI_len]; exact HMJ.out.symm
    have hjL := hid hjl
    rw [hjl]
    clear K B3 B1 g1 g2 g3 c0 c1 c2 c3 c4 KC hjl
    go_wp2_with fail
    refine (KU.out w4 B4.out.be).mono ?_
    rintro e w5 ⟨r, rfl, g1, g2, gc, g3⟩
    have B5 := hid (B4.out.grow g3)
    have HJ5 := hid (fun (X : World) (b : Below w5.heap.size w5 X) => HJ.out X (g3.trans (b.mono g3.size)))
    by_cases hE0 : E2 = 0
    · subst hE0
      obtain ⟨hVl, hVa⟩ := HU.out rfl
      obtain ⟨rp, rc, rfl⟩ := seg_len g1
      have hrc : V.length ≤ rc := gc _ _ _ rfl
      have HVS := hid (fun (X : World) (b : Below w5.heap.size w5 X) => seg_at (g1.below b g2))
      rw [hVl]
      rw [hVl] at hrc
      have HVL := hid hVl
      have HVA := hid hVa
      obtain ⟨c0, c1, c2, c3, c4⟩ := B5.out.cc
      clear g1 g2 gc g3 KU HJ B4 HU H1 hVl hVa
      have hmk := run_make_row' (P := Try.prog) 36 49 (.slice none 0 0) 24 Try.underlying36 Try.infoRowE rfl .i64 .i64 ls.length (by omega) (by omega)
      obtain ⟨T, hT⟩ : ∃ T, T = w5.heap.size := ⟨_, rfl⟩
      have T0 := hid (ToI.made w5 ls.length)
      have bM : Below w5.heap.size w5 (w5.alloc (.cells (madeCells #[.slice none 0 0] ls.length) 49)) := (Below.refl _ _).alloc (Nat.le_refl _) _
      have BM := hid bM
      have B6 := hid (B5.out.grow bM).be
      clear bM
      go_wp2
      rw [← hT]
      rw [← hT] at T0
      have HT := hid hT
      have HW5 := hid B5.out.be
      clear hT hmk c0 c1 c2 c3 c4 B5
      obtain ⟨TV, hTV⟩ : ∃ TV, TV = Plain.toldV ls x y bl := ⟨_, rfl⟩
      have HTK := hid (fun k (hk : k < js.length) => show TV (js.getD k 0) = Plain.entV (Plain.slF bl k) by
        rw [hTV]
        unfold Plain.toldV
        rw [if_pos (HPO.out k hk).2, (HPO.out k hk).1])
      have HTN := hid (fun j (hj : j < ls.length) (h : j ∉ js) => show TV j = [] by
        rw [hTV]
        unfold Plain.toldV
        rw [if_neg (fun hb => h ((HME.out j hj).2 hb))])
      have HTL := hid (show Plain.toldL ls x y bl = (List.range ls.length).map TV by rw [hTV]; rfl)
      clear hTV HPO HME
      have HTW := hid (show w.heap.size ≤ T by rw [HT.out]; exact HW5.out.size)
      go_loopg [46] m (fun gg s46 wr => ∃ k : Nat, k ≤ m ∧ m - k ≤ gg ∧ s46 = .int .i64 k ∧ Aside (∃ U, ToI wr T ls.length U (fun j => if j ∈ js.take k then TV j else [])) ∧ Aside (Plain.goodS bl k = true) ∧ Aside (Below w5.heap.size w5 wr))
      case atStart => exact ⟨0, Nat.zero_le _, by omega, rfl, (show Aside _ from ⟨_, T0.out.congr fun j _ => by simp⟩), rfl, (show Aside _ from BM.out)⟩
      case round =>
        obtain ⟨k, hk, hg, rfl, A, AG, BW⟩ := hrel
        by_cases hlt : k < m
        · have hltz : (k : Int) < (m : Int) := by omega
          have hkj : k < js.length := by rw [← HMJ.out]; exact hlt
          obtain ⟨jb, jo, rfl, hc⟩ := HJ5.out wr BW.out (by rw [hjL.out]; omega)
          have c0 := hc k (by rw [hjL.out]; exact hlt)
          rw [Plain.natsI_at js k hkj] at c0
          have hi := hJ.out (js.getD k 0) (by rw [List.getD_eq_getElem?_getD, List.getElem?_eq_getElem hkj]; exact List.getElem_mem hkj)
          have HTKk := hid (HTK.out k hkj)
          have HTAK := hid (show js.take (k + 1) = js.take k ++ [js.getD k 0] by rw [List.take_succ_eq_append_getElem hkj, List.getD_eq_getElem?_getD, List.getElem?_eq_getElem hkj]; rfl)
          generalize js.getD k 0 = i at c0 hi HTKk HTAK
          have hiz : (i : Int) < (ls.length : Int) := by omega
          obtain ⟨vb, vo, rfl, hcv⟩ := HVS.out wr BW.out (by rw [HVL.out]; omega)
          obtain ⟨U, to⟩ := A.out
          have TO := hid to
          have hTl : T < wr.heap.size := to.row.lt
          obtain ⟨S, hS⟩ : ∃ S, S = wr.heap.size := ⟨_, rfl⟩
          obtain ⟨F, hFF⟩ : ∃ F : Nat → Nat, F = Plain.slF bl k := ⟨_, rfl⟩
          have HFL := hid (fun j (_ : j < 8) => show F j < 17179869184 by rw [hFF]; exact Plain.slF_lt bl k j)
          obtain ⟨Z, hZ⟩ : ∃ Z, Z = wr.alloc (.cells #[.int .i64 0, .int .i64 0, .int .i64 0, .int .i64 0, .int .i64 0, .int .i64 0, .int .i64 0, .int .i64 0] 64) := ⟨_, rfl⟩
          have bZ : Below wr.heap.size wr Z.drew := by rw [hZ]; exact ((Below.refl _ _).alloc (Nat.le_refl _) _).drew
          have rZ : Z.drew.rowIs S 64 8 (fun _ => .int .i64 0) := by
            rw [hZ, hS]
            have r : (wr.alloc (.cells #[.int .i64 0, .int .i64 0, .int .i64 0, .int .i64 0, .int .i64 0, .int .i64 0, .int .i64 0, .int .i64 0] 64)).rowIs wr.heap.size 64 8 (fun _ => .int .i64 0) := by
              refine World.rowIs_alloc _ _ 64 _ fun i hi => ?_
              have : i = 0 ∨ i = 1 ∨ i = 2 ∨ i = 3 ∨ i = 4 ∨ i = 5 ∨ i = 6 ∨ i = 7 := by have : i < 8 := hi; omega
              rcases this with rfl | rfl | rfl | rfl | rfl | rfl | rfl | rfl <;> rfl
            exact r.of_block rfl
          have hvb : 0 < m * 8 → vb < wr.heap.size := fun h => World.block_lt_of_cell? (w := wr) (h := hcv 0 (by rw [HVL.out]; exact h))
          obtain ⟨V2, cp2, r2, b2⟩ := copy8 (n := m * 8 - k * 8) (c := rc - k * 8) (vb := vb) (vo := vo + k * 8) (F := fun j => ((F j : Nat) : Int)) rZ (by omega) (fun j hj => by
            have h1 := (bZ.cell (p := ⟨vb, vo + (k * 8 + j), none⟩) (hvb (by omega))).trans (hcv (k * 8 + j) (by rw [HVL.out]; omega))
            rw [Nat.add_assoc, h1, HVA.out (k * 8 + j) (by omega), hFF]
            rfl)
          have B2 := hid (bZ.trans (b2 wr.heap.size (by omega)))
          have CP := hid cp2
          have R2 := hid r2
          have HFF := hid hFF
          clear hc hcv A to bZ rZ b2 hvb hFF r2
          have hmul : IntKind.i64.wrap ((k : Int) * 8) = (k : Int) * 8 := by rw [IntKind.wrap_i64]; omega
          have hz0 : (0 : Int) ≤ (k : Int) * 8 := by omega
          have hz1 : (k : Int) * 8 ≤ (m : Int) * 8 := by omega
          have htn : ((k : Int) * 8).toNat = k * 8 := by omega
          have hrne : ¬ rc = k * 8 := by omega
          go_upto_region 13 with fail
          rw [← hZ, ← hS]
          have hcp : ∀ ty, (Builtin.copy_ #[22, 22] ty #[.slice (some ⟨S, 0, none⟩) 8 8, .slice (some ⟨vb, vo + k * 8, none⟩) (m * 8 - k * 8) (rc - k * 8)]).run Try.prog Z.drew = .ok (goInt ((8 : Nat) : Int)) V2 := CP.out
          clear CP hZ
          go_region_law (refine step_copyQ rfl _ _ 22 22 rfl (.slice (some ⟨S, 0, none⟩) 8 8) (.slice (some ⟨vb, vo + k * 8, none⟩) (m * 8 - k * 8) (rc - k * 8)) (by simp [Act.eval, Act.put]) (by simp [Act.eval, Act.put]) (hcp _) ?_)
          clear hcp hmul hz0 hz1 htn hrne
          have KE := entriesOf_c F HFL.out V2
          have TO2 := hid (TO.out.grow B2.out)
          have BV := hid (BW.out.trans (B2.out.mono BW.out.size))
          subst hS
          have z0 := R2.out.cell (i := 0) (by omega)
          have z1 := R2.out.cell (i := 1) (by omega)
          have z2 := R2.out.cell (i := 2) (by omega)
          have z3 := R2.out.cell (i := 3) (by omega)
          have z4 := R2.out.cell (i := 4) (by omega)
          have z5 := R2.out.cell (i := 5) (by omega)
          have z6 := R2.out.cell (i := 6) (by omega)
          have z7 := R2.out.cell (i := 7) (by omega)
          have HTLV := hid (show T < V2.heap.size from TO2.out.row.lt)
          clear TO BW R2 c0 hTl
          go_wp2_with fail
          refine KE.mono ?_
          rintro e w7 ⟨q, rfl, s7, l7, a7, b7⟩
          have TO3 := hid (TO2.out.grow b7)
          have hTl : T < w7.heap.size := TO3.out.row.lt
          have B7 := hid (BV.out.trans (b7.mono BV.out.size))
          have B70 := hid (HW5.out.trans (B7.out.mono HW5.out.size))
          have EL := hid (show ElL w7 q (Plain.entV F) from ⟨s7, l7, by
            have h1 : (Plain.entV F).length ≤ 8 := by
              unfold Plain.entV
              split
              · exact Plain.entsD_len F 8
              · simp
            omega⟩)
          have NI := hid (show NotIn T q from fun pp nn cc e hn => by have := a7 pp nn cc e hn; have := HTLV.out; omega)
          obtain ⟨qp, qc, rfl, _⟩ := s7.form
          have cT := TO3.out.row.cell hi
          have fT := TO3.out.row.frozen i
          have TO4 := hid (TO3.out.set i EL.out NI.out)
          generalize hE3 : Plain.entE F = E3
          clear z0 z1 z2 z3 z4 z5 z6 z7 s7 l7 a7 b7 KE TO2 TO3 BV
          have hor := Plain.entE_or F
          rw [hE3] at hor
          rcases hor with rfl | rfl
          · have HG := hid (Plain.good_succ AG.out (show Plain.entE (Plain.slF bl k) = 0 by rw [← HFF.out]; exact hE3))
            have TO5 := hid (TO4.out.congr (H := fun j => if j ∈ js.take (k + 1) then TV j else []) fun j hj => by
              rw [HTAK.out]
              by_cases e : j = i
              · rw [if_pos e, if_pos (by simp [e]), e, HTKk.out, HFF.out]
              · rw [if_neg e]
                by_cases h1 : j ∈ js.take k
                · rw [if_pos h1, if_pos (List.mem_append_left _ h1)]
                · rw [if_neg h1, if_neg (by simp [h1, e])])
            have B8 := hid (B7.out.setCell (p := ⟨T, i, none⟩) (by rw [← HT.out]; exact Nat.le_refl _) (.slice qp (Plain.entV F).length qc))
            clear hE3
            go_wp2
            go_roundg (m - (k + 1))
            case measure => omega
            case rel => exact ⟨k + 1, by omega, by omega, by go_num, (show Aside _ from ⟨_, TO5.out⟩), (show Aside _ from HG.out), (show Aside _ from B8.out)⟩
          · have HN := hid (H2.out trivial (Plain.good_no hlt (show Plain.entE (Plain.slF bl k) ≠ 0 by rw [← HFF.out, hE3]; decide)))
            have B8 := hid (B70.out.setCell (p := ⟨T, i, none⟩) HTW.out (.slice qp (Plain.entV F).length qc))
            clear hE3
            go_wp2
            go_ret2
            exact heaP_no HN.out B8.out
        · have hltz : ¬ (k : Int) < (m : Int) := by omega
          have ek : k = m := by omega
          subst ek
          have HE := hid (H3.out trivial AG.out)
          obtain ⟨U, to⟩ := A.out
          have to2 := to.congr (H := TV) fun j hj => by
            rw [List.take_of_length_le (by rw [← HMJ.out]; exact Nat.le_refl _)]
            by_cases h1 : j ∈ js
            · rw [if_pos h1]
            · rw [if_neg h1, HTN.out j hj h1]
          have R := hid (show HeaP ⟨n, ls, t, ms, cap⟩ x y bl w (.returned (.tuple #[.slice (some ⟨T, 0, none⟩) ls.length ls.length, .int .i64 ((0 : Nat) : Int)])) wr from
            ⟨_, by rw [HE.out.1], by rw [HE.out.2]; exact (show SegLs wr _ (Plain.toldL ls x y bl) from by rw [HTL.out]; exact to2.segs (by omega)), HW5.out.trans (BW.out.mono HW5.out.size)⟩)
          clear to to2 A
          go_wp2
          go_ret2
          exact R.out
    · have HN := hid (H1.out hE0)
      have hne : ((E2 : Int) != 0) = true := by rw [bne_iff_ne]; omega
      clear g1 g2 gc g3
      go_wp2
      go_ret2
      exact heaP_no HN.out B5.out.be
  · have HN := hid (Plain.hea_ref (bl := bl) (by rw [← hE]; exact h0))
    have hne : ((E : Int) != 0) = true := by rw [bne_iff_ne]; omega
    rw [← hE] at HN
    clear hE
    obtain ⟨n, ls, t, ms, cap⟩ := c
    dsimp only at *
    go_enter Try.func19, Try.ntmps19
    go_wp2_with fail
    refine KM.mono ?_
    rintro e w1 ⟨rfl, b1⟩
    have B1 := hid (B0.out.grow b1)
    clear B0 KM b1
    go_wp2
    go_ret2
    exact heaP_no HN.out B1.out.be
end Go.Proofs.Ytkmnofmhjoehial
