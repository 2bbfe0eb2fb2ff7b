/-
  What is heard is what was told, plain.
-/
import Derived.Test.YtkmnofmhjoehialQk
import Derived.Test.YtkmnofmhjoehialRt
namespace Go.Proofs.Ytkmnofmhjoehial
namespace Plain
theorem num_add (g : Nat → Nat) (a u v : Nat) : num g a (u + v) = num g a u * 2 ^ v + num g (a + u) v := by
  induction v with
  | zero => simp [num]
  | succ v ih =>
    rw [← Nat.add_assoc]
    simp only [num]
    rw [ih, Nat.pow_succ, Nat.add_assoc a u v, Nat.mul_add, ← Nat.mul_assoc, Nat.mul_comm (2 ^ v) 2, ← Nat.mul_assoc (num g a u), Nat.mul_comm (num g a u) 2, Nat.mul_assoc 2]
    omega
/-- The entry that 34 bits tell, or none. -/
def decR (g : Nat → Nat) (a k : Nat) : List En := if num g a 1 = 1 then [⟨k, (num g (a + 2) 8 : Nat), (num g (a + 10) 21 : Nat), (num g (a + 31) 3 : Nat), num g (a + 1) 1 == 1⟩] else []
theorem dec_slot (g : Nat → Nat) (hg : ∀ p, g p < 2) (a k : Nat) : (if num g a 34 / 8589934592 = 0 then [] else [entD k (num g a 34)]) = decR g a k := by
  have e1 := num_add g a 1 33
  have e2 := num_add g (a + 1) 1 32
  have e3 := num_add g (a + 2) 8 24
  have e4 := num_add g (a + 10) 21 3
  have h1 := num_lt g hg a 1
  have h2 := num_lt g hg (a + 1) 1
  have h3 := num_lt g hg (a + 2) 8
  have h4 := num_lt g hg (a + 10) 21
  have h5 := num_lt g hg (a + 31) 3
  rw [show a + 1 + 1 = a + 2 by omega] at e2
  rw [show a + 2 + 8 = a + 10 by omega] at e3
  rw [show a + 10 + 21 = a + 31 by omega] at e4
  rw [show (1 + 33 : Nat) = 34 from rfl] at e1
  rw [show (1 + 32 : Nat) = 33 from rfl] at e2
  rw [show (8 + 24 : Nat) = 32 from rfl] at e3
  rw [show (21 + 3 : Nat) = 24 from rfl] at e4
  rw [e4] at e3
  rw [e3] at e2
  rw [e2] at e1
  unfold decR entD
  rw [e1]
  generalize num g a 1 = n1 at *
  generalize num g (a + 1) 1 = n2 at *
  generalize num g (a + 2) 8 = n8 at *
  generalize num g (a + 10) 21 = n21 at *
  generalize num g (a + 31) 3 = n3 at *
  clear e1 e2 e3 e4
  have hs : n1 * 2 ^ 33 + (n2 * 2 ^ 32 + (n8 * 2 ^ 24 + (n21 * 2 ^ 3 + n3))) = n1 * 8589934592 + n2 * 4294967296 + n8 * 16777216 + n21 * 8 + n3 := by omega
  rw [hs]
  have a1 : (n1 * 8589934592 + n2 * 4294967296 + n8 * 16777216 + n21 * 8 + n3) / 8589934592 = n1 := by omega
  have a2 : (n1 * 8589934592 + n2 * 4294967296 + n8 * 16777216 + n21 * 8 + n3) / 16777216 % 256 = n8 := by omega
  have a3 : (n1 * 8589934592 + n2 * 4294967296 + n8 * 16777216 + n21 * 8 + n3) / 8 % 2097152 = n21 := by omega
  have a4 : (n1 * 8589934592 + n2 * 4294967296 + n8 * 16777216 + n21 * 8 + n3) % 8 = n3 := by omega
  have a5 : (n1 * 8589934592 + n2 * 4294967296 + n8 * 16777216 + n21 * 8 + n3) / 4294967296 % 2 = n2 := by omega
  rw [a1, a2, a3, a4, a5]
  have h1' : n1 = 0 ∨ n1 = 1 := by omega
  have h2' : n2 = 0 ∨ n2 = 1 := by omega
  rcases h1' with rfl | rfl
  · rfl
  · rcases h2' with rfl | rfl <;> rfl
/-- What the document decodes. -/
def outD (ls : List Int) (a b : Int) (bl : List Nat) (j : Nat) : List En := if both (ls.getD j 0) a b = true then entsD (slF bl (comL ls a b j).length) 8 else []
def outL (ls : List Int) (a b : Int) (bl : List Nat) : List (List En) := (List.range ls.length).map (outD ls a b bl)
theorem outL_len (ls : List Int) (a b : Int) (bl : List Nat) : (outL ls a b bl).length = ls.length := by simp [outL]
theorem outL_at (ls : List Int) (a b : Int) (bl : List Nat) {j : Nat} (h : j < ls.length) : (outL ls a b bl).getD j [] = outD ls a b bl j := by simp [outL, h]
theorem look_ents (F : Nat → Nat) (n k : Nat) : look k (entsD F n) = if k < n ∧ F k / 8589934592 ≠ 0 then some (entD k (F k)) else none := by
  induction n with
  | zero => rw [if_neg (by omega)]; rfl
  | succ n ih =>
    rw [entsD_succ, look_app, ih]
    by_cases e : k = n
    · subst e
      rw [if_neg (by omega)]
      by_cases h : F k / 8589934592 = 0
      · rw [if_pos h, if_neg (by omega)]; rfl
      · rw [if_neg h, if_pos ⟨by omega, h⟩, look_cons, if_pos (show (entD k (F k)).key = (k : Int) from rfl)]; rfl
    · have hn : look (k : Int) (if F n / 8589934592 = 0 then [] else [entD n (F n)]) = none := by
        split
        · rfl
        · rw [look_cons, if_neg (by show ¬ ((n : Int) = (k : Int)); omega)]; rfl
      rw [hn, Option.or_none]
      by_cases h : k < n ∧ F k / 8589934592 ≠ 0
      · rw [if_pos h, if_pos ⟨by omega, h.2⟩]
      · rw [if_neg h, if_neg (fun h2 => h ⟨by omega, h2.2⟩)]
theorem slot_entD (k s : Nat) (h1 : s / 8589934592 ≠ 0) (h2 : s < 17179869184) : slotN (entD k s) = s := by
  unfold slotN entD
  simp only [Int.toNat_natCast]
  have : s / 4294967296 % 2 = 0 ∨ s / 4294967296 % 2 = 1 := by omega
  rcases this with h | h
  · rw [h, if_neg (by decide)]; omega
  · rw [h, if_pos (by decide)]; omega
theorem slotAt_ents (F : Nat → Nat) {k : Nat} (hk : k < 8) (h2 : F k < 17179869184) : slotAt (entsD F 8) k = if F k / 8589934592 = 0 then 0 else F k := by
  unfold slotAt
  rw [look_ents]
  by_cases h : F k / 8589934592 = 0
  · rw [if_neg (by omega), if_pos h]
  · rw [if_pos ⟨hk, h⟩, if_neg h]
    exact slot_entD k (F k) h h2
theorem fit_ents (F : Nat → Nat) : (entsD F 8).all fitE = true := by
  rw [List.all_eq_true]
  intro e he
  obtain ⟨k, hk, he⟩ := List.mem_flatMap.1 he
  have hk8 := List.mem_range.1 hk
  by_cases h : F k / 8589934592 = 0
  · rw [if_pos h] at he; simp at he
  · rw [if_neg h] at he
    simp at he
    subst he
    unfold fitE entD
    simp only [Bool.and_eq_true, decide_eq_true_eq]
    omega
theorem com_mono (ls : List Int) (a b : Int) {k n : Nat} (h : k ≤ n) : (comL ls a b k).length ≤ (comL ls a b n).length := by
  induction n with
  | zero => have : k = 0 := by omega
            subst this; exact Nat.le_refl _
  | succ n ih =>
    by_cases e : k = n + 1
    · subst e; exact Nat.le_refl _
    · have := ih (by omega)
      rw [com_succ]
      split
      · rw [List.length_append]; omega
      · exact this
theorem com_rank {ls : List Int} {a b : Int} {j n : Nat} (hj : j < n) (h : both (ls.getD j 0) a b = true) : (comL ls a b j).length < (comL ls a b n).length := by
  have h1 := com_mono ls a b (k := j + 1) (n := n) (by omega)
  rw [com_succ, if_pos h, List.length_append] at h1
  have : [j].length = 1 := rfl
  omega
theorem range_flat (m : Nat) (G : Nat → Int) : (List.range m).flatMap (fun k => (List.range 8).map fun j => G (k * 8 + j)) = (List.range (m * 8)).map G := by
  induction m with
  | zero => rfl
  | succ m ih =>
    rw [List.range_succ (n := m), List.flatMap_append, ih, show (m + 1) * 8 = m * 8 + 8 by omega, List.range_add, List.map_append, List.map_map]
    simp [Function.comp_def]
theorem js_range (js : List Nat) : js = (List.range js.length).map fun k => js.getD k 0 := by
  apply List.ext_getElem
  · simp
  · intro i h1 h2
    simp [h1]
/-- The slots of what is decoded. -/
theorem flat_out (ls : List Int) (a b : Int) (bl : List Nat) : flatS (outL ls a b bl) (comL ls a b ls.length) = (List.range (comL ls a b ls.length).length).flatMap fun k => slotsL (entsD (slF bl k) 8) := by
  have h := js_range (comL ls a b ls.length)
  have hpos := com_pos ls a b ls.length
  have hlt : ∀ k, k < (comL ls a b ls.length).length → (comL ls a b ls.length).getD k 0 < ls.length := fun k hk => com_lt (by rw [List.getD_eq_getElem?_getD, List.getElem?_eq_getElem hk]; exact List.getElem_mem hk)
  generalize comL ls a b ls.length = js at h hpos hlt
  unfold flatS
  conv => lhs; rw [h]
  rw [List.flatMap_map]
  have key : ∀ k ∈ List.range js.length, slotsL ((outL ls a b bl).getD (js.getD k 0) []) = slotsL (entsD (slF bl k) 8) := fun k hk => by
    have hk' := List.mem_range.1 hk
    rw [outL_at ls a b bl (hlt k hk')]
    unfold outD
    rw [if_pos (hpos k hk').2, (hpos k hk').1]
  generalize List.range js.length = r at key
  induction r with
  | nil => rfl
  | cons x r ih => rw [List.flatMap_cons, List.flatMap_cons, ih (fun k hk => key k (List.mem_cons_of_mem _ hk)), key x List.mem_cons_self]
theorem sz34 (m : Nat) (hm : m ≤ 4) : szE (List.replicate (m * 8) (34 : Int)) = 0 ∧ szN (List.replicate (m * 8) (34 : Int)) = 34 * m ∧ bitsN (List.replicate (m * 8) (34 : Int)) = 34 * (m * 8) := by
  have ha : (List.replicate (m * 8) (34 : Int)).all okW = true := by
    rw [List.all_eq_true]
    intro x hx
    rw [List.eq_of_mem_replicate hx]
    rfl
  have hb : bitsN (List.replicate (m * 8) (34 : Int)) = 34 * (m * 8) := by
    have := bits34 (m * 8) (m * 8) (Nat.le_refl _)
    rwa [List.take_of_length_le (by rw [List.length_replicate]; exact Nat.le_refl _)] at this
  have hz := sz_yes (List.replicate (m * 8) (34 : Int)) (by rw [List.length_replicate]; omega) ha
  exact ⟨hz.1, by rw [hz.2, hb]; omega, hb⟩
/-- A record of 34 bytes a label is unpacked, and no other one. -/
theorem un34_iff (m : Nat) (hm : m ≤ 4) (bl : List Nat) : unpackE (List.replicate (m * 8) (34 : Int)) bl = 0 ↔ bl.length = 34 * m := by
  obtain ⟨h1, h2, h3⟩ := sz34 m hm
  unfold unpackE
  rw [if_pos h1, h2, h3, show 8 * (34 * m) - 34 * (m * 8) = 0 by omega]
  constructor
  · intro h
    by_cases e : bl.length = 34 * m
    · exact e
    · rw [if_neg e] at h; omega
  · intro h
    rw [if_pos h]
    rfl
theorem all_may_out {c : Cf} {a b : Int} {bl : List Nat} (h : ∀ k, k < comN c a b → mayL (entsD (slF bl k) 8) = true) : (outL c.ls a b bl).all mayL = true := by
  rw [List.all_eq_true]
  intro l hl
  obtain ⟨j, hj, rfl⟩ := List.mem_map.1 hl
  unfold outD
  split
  · rename_i hb
    exact h _ (com_rank (List.mem_range.1 hj) hb)
  · rfl
theorem room_out (c : Cf) (a b : Int) (bl : List Nat) : roomB (outL c.ls a b bl) (comL c.ls a b c.ls.length) = true := by
  unfold roomB
  rw [List.all_eq_true]
  intro j hj
  rw [outL_at c.ls a b bl (com_lt hj)]
  unfold outD
  split
  · exact fit_ents _
  · rfl
theorem good_all {bl : List Nat} {m : Nat} (h : goodS bl m = true) {k : Nat} (hk : k < m) : okS (slF bl k) 8 = true ∧ mayL (entsD (slF bl k) 8) = true := by
  have := List.all_eq_true.1 h k (List.mem_range.2 hk)
  rw [beq_iff_eq] at this
  unfold entE at this
  by_cases h1 : okS (slF bl k) 8 = true
  · rw [if_pos h1] at this
    by_cases h2 : mayL (entsD (slF bl k) 8) = true
    · exact ⟨h1, h2⟩
    · rw [if_neg h2] at this; omega
  · rw [if_neg h1] at this; omega
theorem slots_ok {F : Nat → Nat} (hF : ∀ j, F j < 17179869184) (h : okS F 8 = true) : slotsL (entsD F 8) = (List.range 8).map fun j => ((F j : Nat) : Int) := by
  unfold slotsL
  refine List.map_congr_left fun j hj => ?_
  have hj8 := List.mem_range.1 hj
  rw [slotAt_ents F hj8 (hF j)]
  have := List.all_eq_true.1 h j hj
  unfold slOK at this
  split
  · rename_i h0
    rw [h0] at this
    simp at this
    rw [this]
  · rfl
/-- If the slots of what is decoded are those that were read, they may be. -/
theorem ok_slots {F : Nat → Nat} (hF : ∀ j, F j < 17179869184) (h : ∀ j, j < 8 → slotAt (entsD F 8) j = F j) : okS F 8 = true := by
  unfold okS
  rw [List.all_eq_true]
  intro j hj
  have hj8 := List.mem_range.1 hj
  have := h j hj8
  rw [slotAt_ents F hj8 (hF j)] at this
  unfold slOK
  by_cases h0 : F j / 8589934592 = 0
  · rw [if_pos h0] at this
    rw [← this]
    rfl
  · have h1 : (F j / 8589934592 != 0) = true := by rw [bne_iff_ne]; exact h0
    rw [h1]
    rfl
theorem told_out {c : Cf} {a b : Int} {bl : List Nat} (h : goodS bl (comN c a b) = true) : toldL c.ls a b bl = outL c.ls a b bl := by
  unfold toldL outL
  refine List.map_congr_left fun j hj => ?_
  unfold toldV outD
  split
  · rename_i hb
    have hg := good_all h (com_rank (List.mem_range.1 hj) hb)
    exact (ent_ok hg.1 hg.2).2
  · rfl
/-- What is told of what is decoded is the record, where all slots may be. -/
theorem told_back {c : Cf} {a b : Int} {bl : List Nat} (hr : refE c a b = 0) (hbl : ∀ x ∈ bl, x < 256) (hl : bl.length = 34 * comN c a b) (h : goodS bl (comN c a b) = true) :
    rumE c a b (outL c.ls a b bl) = 0 ∧ rumB c a b (outL c.ls a b bl) = bl := by
  have hm4 : comN c a b ≤ 4 := by
    have h1 := com_len c.ls a b c.ls.length
    have h2 := (may_all (ref_may hr).1).2.1
    unfold comN
    omega
  have hok := rum_ok hr (outL_len c.ls a b bl) (all_may_out (fun k hk => (good_all h hk).2)) (room_out c a b bl)
  refine ⟨hok.1, ?_⟩
  rw [hok.2, flat_out]
  have hcn : (comL c.ls a b c.ls.length).length = comN c a b := rfl
  rw [hcn]
  have e1 : ((List.range (comN c a b)).flatMap fun k => slotsL (entsD (slF bl k) 8)) = (List.range (comN c a b * 8)).map fun i => ((num (bitOf bl) (34 * i) 34 : Nat) : Int) := by
    rw [← range_flat]
    have key : ∀ k ∈ List.range (comN c a b), slotsL (entsD (slF bl k) 8) = (List.range 8).map fun j => ((num (bitOf bl) (34 * (k * 8 + j)) 34 : Nat) : Int) := fun k hk => slots_ok (slF_lt bl k) (good_all h (List.mem_range.1 hk)).1
    generalize List.range (comN c a b) = r at key
    induction r with
    | nil => rfl
    | cons x r ih => rw [List.flatMap_cons, List.flatMap_cons, ih (fun k hk => key k (List.mem_cons_of_mem _ hk)), key x List.mem_cons_self]
  rw [e1]
  obtain ⟨h1, h2, h3⟩ := sz34 (comN c a b) hm4
  have e2 : fldL 34 ((List.range (comN c a b * 8)).map fun i => ((num (bitOf bl) (34 * i) 34 : Nat) : Int)) = flds (List.replicate (comN c a b * 8) 34) bl (List.replicate (comN c a b * 8) (34 : Int)).length := by
    unfold fldL flds
    rw [List.map_map, List.length_replicate]
    refine List.map_congr_left fun i hi => ?_
    have hi8 := List.mem_range.1 hi
    unfold valAt
    rw [rep_getD _ 34 hi8, bits34 _ i (by omega)]
    rfl
  rw [e2]
  refine ((again (List.replicate (comN c a b * 8) 34) bl h1 (by rw [h2]; exact hl) hbl).2).2 ?_
  rw [h2, h3, show 8 * (34 * comN c a b) - 34 * (comN c a b * 8) = 0 by omega]
  rfl
theorem fld34_len (us : List Int) : (rbits ((fldL 34 us).map nat2)).length = 34 * us.length := by
  rw [rbits_len]
  unfold fldL
  rw [List.map_map, List.map_map]
  induction us with
  | nil => rfl
  | cons v vs ih =>
    rw [List.map_cons, List.sum_cons, ih, List.length_cons]
    show 34 + _ = _
    omega
/-- What a record of slots says, slot by slot. -/
theorem num_pack {vs : List Int} (hl : vs.length ≤ 32) (h : ∀ v ∈ vs, 0 ≤ v ∧ v < 17179869184) {i : Nat} (hi : i < vs.length) : ((num (bitOf (packB (fldL 34 vs))) (34 * i) 34 : Nat) : Int) = vs.getD i 0 := by
  have h2 := (pack34 hl h).2
  rw [h2]
  have hlen := fld34_len vs
  have hg : ∀ p, at0 (rbits ((fldL 34 vs).map nat2)) p < 2 := at0_lt _ (rbits_lt _)
  have e1 : num (bitOf (bytesOf (rbits ((fldL 34 vs).map nat2)) ((34 * vs.length + 7) / 8))) (34 * i) 34 = num (at0 (rbits ((fldL 34 vs).map nat2))) (34 * i) 34 :=
    num_congr _ _ _ _ fun j hj => bitOf_bytesOf _ hg _ _ (by omega)
  rw [e1]
  have hsplit : vs = vs.take i ++ (vs.getD i 0 :: vs.drop (i + 1)) := by
    rw [List.getD_eq_getElem?_getD, List.getElem?_eq_getElem hi]
    simp
  have e2 : rbits ((fldL 34 vs).map nat2) = rbits ((fldL 34 (vs.take i)).map nat2) ++ fbits 34 (vs.getD i 0).toNat ++ rbits ((fldL 34 (vs.drop (i + 1))).map nat2) := by
    conv => lhs; rw [hsplit]
    unfold fldL
    rw [List.map_append, List.map_append, rbits_append, List.append_assoc]
    rfl
  have hpl : (rbits ((fldL 34 (vs.take i)).map nat2)).length = 34 * i := by rw [fld34_len, List.length_take]; omega
  have hv := h (vs.getD i 0) (by rw [List.getD_eq_getElem?_getD, List.getElem?_eq_getElem hi]; exact List.getElem_mem hi)
  have e3 := num_fbits 34 (vs.getD i 0).toNat (by omega) (rbits ((fldL 34 (vs.take i)).map nat2)) (rbits ((fldL 34 (vs.drop (i + 1))).map nat2))
  rw [hpl] at e3
  rw [e2, e3]
  omega
/-- A record that is told again from what it was decoded to is good. -/
theorem back_good {c : Cf} {a b : Int} {bl : List Nat} (hr : refE c a b = 0) (h1 : rumE c a b (outL c.ls a b bl) = 0) (h2 : rumB c a b (outL c.ls a b bl) = bl) : bl.length = 34 * comN c a b ∧ goodS bl (comN c a b) = true := by
  have hm4 : comN c a b ≤ 4 := by
    have h1 := com_len c.ls a b c.ls.length
    have h2 := (may_all (ref_may hr).1).2.1
    unfold comN
    omega
  have hmay : (outL c.ls a b bl).all mayL = true := by
    cases hq : (outL c.ls a b bl).all mayL with
    | true => rfl
    | false => rw [(rum_form hr (outL_len c.ls a b bl) hq).1] at h1; omega
  have hok := rum_ok hr (outL_len c.ls a b bl) hmay (room_out c a b bl)
  rw [hok.2] at h2
  have hj : ∀ j ∈ comL c.ls a b c.ls.length, j < (outL c.ls a b bl).length := fun j hj => by rw [outL_len]; exact com_lt hj
  have hvl := flat_lt hmay hj (room_out c a b bl)
  have hlen := flatS_len (outL c.ls a b bl) (comL c.ls a b c.ls.length)
  have hcn : (comL c.ls a b c.ls.length).length = comN c a b := rfl
  rw [hcn] at hlen
  have hfo := flat_out c.ls a b bl
  rw [hcn] at hfo
  generalize flatS (outL c.ls a b bl) (comL c.ls a b c.ls.length) = vs at *
  have hbl : bl.length = 34 * comN c a b := by
    rw [← h2, (pack34 (by omega) hvl).2, bytesOf_len]
    omega
  refine ⟨hbl, ?_⟩
  have hat : ∀ k j, k < comN c a b → j < 8 → slotAt (entsD (slF bl k) 8) j = slF bl k j := fun k j hk hj8 => by
    have e := num_pack (by omega) hvl (i := k * 8 + j) (by omega)
    rw [h2] at e
    have e2 : vs.getD (k * 8 + j) 0 = ((slotAt (entsD (slF bl k) 8) j : Nat) : Int) := by
      have e3 : ((List.range (comN c a b)).flatMap fun k => slotsL (entsD (slF bl k) 8)) = (List.range (comN c a b * 8)).map fun i => ((slotAt (entsD (slF bl (i / 8)) 8) (i % 8) : Nat) : Int) := by
        rw [← range_flat]
        have key : ∀ k ∈ List.range (comN c a b), slotsL (entsD (slF bl k) 8) = (List.range 8).map fun j => ((slotAt (entsD (slF bl ((k * 8 + j) / 8)) 8) ((k * 8 + j) % 8) : Nat) : Int) := fun k _ => by
          unfold slotsL
          refine List.map_congr_left fun j hj => ?_
          have := List.mem_range.1 hj
          rw [show (k * 8 + j) / 8 = k by omega, show (k * 8 + j) % 8 = j by omega]
        generalize List.range (comN c a b) = r at key
        clear hfo hlen
        induction r with
        | nil => rfl
        | cons x r ih => rw [List.flatMap_cons, List.flatMap_cons, ih (fun k hk => key k (List.mem_cons_of_mem _ hk)), key x List.mem_cons_self]
      rw [hfo, e3, List.getD_eq_getElem?_getD, List.getElem?_map, List.getElem?_range (by omega)]
      simp only [Option.map_some, Option.getD_some]
      rw [show (k * 8 + j) / 8 = k by omega, show (k * 8 + j) % 8 = j by omega]
    rw [e2] at e
    have e4 : slF bl k j = num (bitOf bl) (34 * (k * 8 + j)) 34 := rfl
    omega
  unfold goodS
  rw [List.all_eq_true]
  intro k hk
  have hk' := List.mem_range.1 hk
  have h3 : okS (slF bl k) 8 = true := ok_slots (slF_lt bl k) (fun j hj8 => hat k j hk' hj8)
  have h4 : mayL (entsD (slF bl k) 8) = true := by
    have hk2 : k < (comL c.ls a b c.ls.length).length := hk'
    have hp := com_pos c.ls a b c.ls.length k hk2
    have hlt : (comL c.ls a b c.ls.length).getD k 0 < c.ls.length := com_lt (by rw [List.getD_eq_getElem?_getD, List.getElem?_eq_getElem hk2]; exact List.getElem_mem hk2)
    have hmem : outD c.ls a b bl ((comL c.ls a b c.ls.length).getD k 0) ∈ outL c.ls a b bl := List.mem_map.2 ⟨_, List.mem_range.2 hlt, rfl⟩
    have := List.all_eq_true.1 hmay _ hmem
    unfold outD at this
    rwa [if_pos hp.2, hp.1] at this
  rw [(ent_ok h3 h4).1]
  rfl
/-- What Heard comes to, by what is told again. -/
theorem hea_again {c : Cf} {a b : Int} {bl : List Nat} (hr : refE c a b = 0) (hbl : ∀ x ∈ bl, x < 256) :
    (rumE c a b (outL c.ls a b bl) = 0 ∧ rumB c a b (outL c.ls a b bl) = bl → heaE c a b bl = 0 ∧ heaV c a b bl = outL c.ls a b bl) ∧
    (¬ (rumE c a b (outL c.ls a b bl) = 0 ∧ rumB c a b (outL c.ls a b bl) = bl) → heaE c a b bl = 4 ∧ heaV c a b bl = []) := by
  have hm4 : comN c a b ≤ 4 := by
    have h1 := com_len c.ls a b c.ls.length
    have h2 := (may_all (ref_may hr).1).2.1
    unfold comN
    omega
  refine ⟨fun ⟨h1, h2⟩ => ?_, fun h => ?_⟩
  · obtain ⟨h3, h4⟩ := back_good hr h1 h2
    have := hea_ok hr ((un34_iff _ hm4 bl).2 h3) h4
    exact ⟨this.1, by rw [this.2, told_out h4]⟩
  · by_cases h3 : unpackE (List.replicate (comN c a b * 8) 34) bl = 0
    · cases h4 : goodS bl (comN c a b) with
      | true => exact absurd (told_back hr hbl ((un34_iff _ hm4 bl).1 h3) h4) h
      | false => exact hea_no hr h3 h4
    · exact hea_un hr h3
end Plain
end Go.Proofs.Ytkmnofmhjoehial
namespace Go.Proofs.Ytkmnofmhjoehial
namespace Plain
theorem rd_natQ (s k : Nat) (hk : k < 8) : rdB (s : Int) (k : Int) = (s / 2 ^ k % 2 == 1) := by
  unfold rdB
  rw [Int.toNat_natCast, Int.toNat_natCast, decide_eq_true (show (0 : Int) ≤ (k : Int) by omega), decide_eq_true (show (k : Int) < 8 by omega)]
  rfl
theorem srt_ents (F : Nat → Nat) (n : Nat) : Srt (entsD F n) ∧ ∀ e ∈ entsD F n, 0 ≤ e.key ∧ e.key < n := by
  induction n with
  | zero => exact ⟨List.Pairwise.nil, fun e he => by simp [entsD] at he⟩
  | succ n ih =>
    rw [entsD_succ]
    by_cases h : F n / 8589934592 = 0
    · rw [if_pos h, List.append_nil]
      exact ⟨ih.1, fun e he => by have := ih.2 e he; omega⟩
    · rw [if_neg h]
      refine ⟨List.pairwise_append.2 ⟨ih.1, List.pairwise_singleton _ _, fun a ha b hb => ?_⟩, fun e he => ?_⟩
      · simp at hb
        subst hb
        exact (ih.2 a ha).2
      · rcases List.mem_append.1 he with h1 | h1
        · have := ih.2 e h1; omega
        · simp at h1
          subst h1
          show 0 ≤ (n : Int) ∧ (n : Int) < ((n + 1 : Nat) : Int)
          omega
theorem entD_slot {e : En} (hm : mayB e = true) (hf : fitE e = true) {k : Nat} (hk : e.key = k) : slotN e / 8589934592 ≠ 0 ∧ entD k (slotN e) = e := by
  have h1 := may_e hm
  have h2 := fit_e hf
  obtain ⟨key, v, t, o, g⟩ := e
  dsimp only at h1 h2 hk
  obtain ⟨v, rfl⟩ := Int.eq_ofNat_of_zero_le h1.2.1.1
  obtain ⟨t, rfl⟩ := Int.eq_ofNat_of_zero_le h1.2.2.1.1
  obtain ⟨o, rfl⟩ := Int.eq_ofNat_of_zero_le h1.2.2.2.1.1
  subst hk
  unfold slotN entD
  simp only [Int.toNat_natCast]
  cases g with
  | false =>
    have hs : 8589934592 + (if false = true then 4294967296 else 0) + v * 16777216 + t * 8 + o = 8589934592 + v * 16777216 + t * 8 + o := by simp
    rw [hs]
    refine ⟨by omega, ?_⟩
    have a2 : (8589934592 + v * 16777216 + t * 8 + o) / 16777216 % 256 = v := by omega
    have a3 : (8589934592 + v * 16777216 + t * 8 + o) / 8 % 2097152 = t := by omega
    have a4 : (8589934592 + v * 16777216 + t * 8 + o) % 8 = o := by omega
    have a5 : (8589934592 + v * 16777216 + t * 8 + o) / 4294967296 % 2 = 0 := by omega
    rw [a2, a3, a4, a5]
    rfl
  | true =>
    have hs : 8589934592 + (if true = true then 4294967296 else 0) + v * 16777216 + t * 8 + o = 12884901888 + v * 16777216 + t * 8 + o := by simp
    rw [hs]
    refine ⟨by omega, ?_⟩
    have a2 : (12884901888 + v * 16777216 + t * 8 + o) / 16777216 % 256 = v := by omega
    have a3 : (12884901888 + v * 16777216 + t * 8 + o) / 8 % 2097152 = t := by omega
    have a4 : (12884901888 + v * 16777216 + t * 8 + o) % 8 = o := by omega
    have a5 : (12884901888 + v * 16777216 + t * 8 + o) / 4294967296 % 2 = 1 := by omega
    rw [a2, a3, a4, a5]
    rfl
/-- Entries come back from their slots. -/
theorem ents_slots {l : List En} (hm : mayL l = true) (hf : l.all fitE = true) {F : Nat → Nat} (hF : ∀ j, j < 8 → F j = slotAt l j) : entsD F 8 = l := by
  have h1 := (may_iff l).1 hm
  have h2 := List.all_eq_true.1 hf
  refine look_ext (srt_ents F 8).1 h1.2.2 fun k => ?_
  by_cases hk : 0 ≤ k ∧ k < 8
  · obtain ⟨k, rfl⟩ := Int.eq_ofNat_of_zero_le hk.1
    have hk8 : k < 8 := by omega
    rw [look_ents, hF k hk8]
    unfold slotAt
    cases hl : look (k : Int) l with
    | none => rw [if_neg (by simp)]
    | some e =>
      have he := look_key hl
      have hs := entD_slot (h1.2.1 e he.2) (h2 e he.2) he.1
      dsimp only
      rw [if_pos ⟨hk8, hs.1⟩, hs.2]
  · rw [look_none fun e he => by have := (srt_ents F 8).2 e he; omega, look_none fun e he => by
      have a := may_e (h1.2.1 e he)
      have b := fit_e (h2 e he)
      omega]
theorem rumB_lt (c : Cf) (a b : Int) (st : List (List En)) : ∀ x ∈ rumB c a b st, x < 256 := by
  intro x hx
  unfold rumB at hx
  split at hx
  · unfold packB at hx
    split at hx
    · simp only [bytesOf, List.mem_map] at hx
      obtain ⟨j, _, rfl⟩ := hx
      exact byteOf_lt _ (at0_lt _ (rbits_lt _)) j
    · simp at hx
  · simp at hx
/-- What is told is heard. -/
theorem told_heard {c : Cf} {a b : Int} {st : List (List En)} (hr : refE c a b = 0) (h1 : st.length = c.ls.length) (h2 : st.all mayL = true) (h3 : ∀ l ∈ st, l.all fitE = true) :
    rumE c a b st = 0 ∧ heaE c a b (rumB c a b st) = 0 ∧ heaV c a b (rumB c a b st) = (List.range c.ls.length).map (fun j => if both (c.ls.getD j 0) a b = true then st.getD j [] else []) ∧ (rumB c a b st).length = 34 * comN c a b := by
  have hm4 : comN c a b ≤ 4 := by
    have h1 := com_len c.ls a b c.ls.length
    have h2 := (may_all (ref_may hr).1).2.1
    unfold comN
    omega
  have hat : ∀ j, j < st.length → mayL (st.getD j []) = true ∧ (st.getD j []).all fitE = true := fun j hj => by
    have e : st.getD j [] = st[j] := by rw [List.getD_eq_getElem?_getD, List.getElem?_eq_getElem hj]; rfl
    rw [e]
    exact ⟨List.all_eq_true.1 h2 _ (List.getElem_mem hj), h3 _ (List.getElem_mem hj)⟩
  have hroom : roomB st (comL c.ls a b c.ls.length) = true := by
    unfold roomB
    rw [List.all_eq_true]
    intro j hj
    exact (hat j (by rw [h1]; exact com_lt hj)).2
  have hok := rum_ok hr h1 h2 hroom
  have hj : ∀ j ∈ comL c.ls a b c.ls.length, j < st.length := fun j hj => by rw [h1]; exact com_lt hj
  have hvl := flat_lt h2 hj hroom
  have hlen := flatS_len st (comL c.ls a b c.ls.length)
  have hcn : (comL c.ls a b c.ls.length).length = comN c a b := rfl
  rw [hcn] at hlen
  have hbl : (rumB c a b st).length = 34 * comN c a b := by
    rw [hok.2, (pack34 (by omega) hvl).2, bytesOf_len]
    omega
  have hflat : ∀ k j, k < comN c a b → j < 8 → (flatS st (comL c.ls a b c.ls.length)).getD (k * 8 + j) 0 = ((slotAt (st.getD ((comL c.ls a b c.ls.length).getD k 0) []) j : Nat) : Int) := by
    have key : ∀ (js : List Nat) (k j : Nat), k < js.length → j < 8 → (flatS st js).getD (k * 8 + j) 0 = ((slotAt (st.getD (js.getD k 0) []) j : Nat) : Int) := by
      intro js
      induction js with
      | nil => intro k j hk; simp at hk
      | cons x js ih =>
        intro k j hk hj8
        have e : flatS st (x :: js) = slotsL (st.getD x []) ++ flatS st js := rfl
        have hl8 := slotsL_len (st.getD x [])
        rw [e, List.getD_eq_getElem?_getD]
        cases k with
        | zero =>
          rw [List.getElem?_append_left (by omega), ← List.getD_eq_getElem?_getD, Nat.zero_mul, Nat.zero_add]
          exact slotsL_at _ hj8
        | succ k =>
          rw [List.getElem?_append_right (by omega), hl8, show (k + 1) * 8 + j - 8 = k * 8 + j by omega, ← List.getD_eq_getElem?_getD]
          exact ih k j (by simpa using hk) hj8
    exact fun k j hk hj8 => key _ k j hk hj8
  have hsl : ∀ k, k < comN c a b → entsD (slF (rumB c a b st) k) 8 = st.getD ((comL c.ls a b c.ls.length).getD k 0) [] := fun k hk => by
    have hin : (comL c.ls a b c.ls.length).getD k 0 ∈ comL c.ls a b c.ls.length := by rw [List.getD_eq_getElem?_getD, List.getElem?_eq_getElem hk]; exact List.getElem_mem hk
    have hm := hat _ (hj _ hin)
    refine ents_slots hm.1 hm.2 fun j hj8 => ?_
    have e := num_pack (by omega) hvl (i := k * 8 + j) (by omega)
    rw [hflat k j hk hj8] at e
    unfold slF
    rw [hok.2]
    omega
  have hgood : goodS (rumB c a b st) (comN c a b) = true := by
    unfold goodS
    rw [List.all_eq_true]
    intro k hk
    have hk' := List.mem_range.1 hk
    have hin : (comL c.ls a b c.ls.length).getD k 0 ∈ comL c.ls a b c.ls.length := by rw [List.getD_eq_getElem?_getD, List.getElem?_eq_getElem hk']; exact List.getElem_mem hk'
    have hm := hat _ (hj _ hin)
    have h4 : okS (slF (rumB c a b st) k) 8 = true := ok_slots (slF_lt _ k) (fun j hj8 => by
      rw [hsl k hk']
      have e := num_pack (by omega) hvl (i := k * 8 + j) (by omega)
      rw [hflat k j hk' hj8] at e
      unfold slF
      rw [hok.2]
      omega)
    rw [(ent_ok h4 (by rw [hsl k hk']; exact hm.1)).1]
    rfl
  have hh := hea_ok hr ((un34_iff _ hm4 _).2 hbl) hgood
  refine ⟨hok.1, hh.1, ?_, hbl⟩
  rw [hh.2, told_out hgood]
  unfold outL
  refine List.map_congr_left fun j hj' => ?_
  unfold outD
  split
  · rename_i hb
    have hjl := List.mem_range.1 hj'
    have hrk := com_rank hjl hb
    rw [hsl _ hrk]
    have hmem := (com_mem (ls := c.ls) (a := a) (b := b) hjl).2 hb
    obtain ⟨k, hk, e⟩ := List.getElem_of_mem hmem
    have hp := com_pos c.ls a b c.ls.length k hk
    rw [List.getD_eq_getElem?_getD, List.getElem?_eq_getElem hk] at hp
    simp only [Option.getD_some] at hp
    rw [e] at hp
    rw [hp.1, List.getD_eq_getElem?_getD (l := comL c.ls a b c.ls.length), List.getElem?_eq_getElem hk]
    simp only [Option.getD_some]
    rw [e]
  · rfl
end Plain
end Go.Proofs.Ytkmnofmhjoehial
