/-
  The document's slotFields; bits of slots, plain.
-/
import Derived.Test.YtkmnofmhjoehialQd
namespace Go.Proofs.Ytkmnofmhjoehial
open Go.RowKit Go.Shelf
namespace Plain
/-- The fields of a key. -/
def sfE (e : En) : List (Int × Int) := [(1, 1), (1, if e.gone = true then 1 else 0), (8, e.value), (21, e.time), (3, e.who)]
def sfL (l : List En) (k : Int) : List (Int × Int) := match look k l with
  | some e => sfE e
  | none => [(34, 0)]
theorem fbits_app (a b x y : Nat) (hy : y < 2 ^ b) : fbits (a + b) (x * 2 ^ b + y) = fbits a x ++ fbits b y := by
  apply List.ext_getElem
  · simp [fbits_len]
  · intro i h1 h2
    rw [fbits_len] at h1
    by_cases hi : i < a
    · rw [List.getElem_append_left (by rw [fbits_len]; exact hi)]
      simp only [fbits, List.getElem_map, List.getElem_range]
      rw [show a + b - 1 - i = b + (a - 1 - i) by omega, Nat.pow_add, ← Nat.div_div_eq_div_mul, show (x * 2 ^ b + y) / 2 ^ b = x by
        rw [Nat.add_comm, Nat.add_mul_div_right _ _ (Nat.two_pow_pos b), Nat.div_eq_of_lt hy, Nat.zero_add]]
    · rw [List.getElem_append_right (by rw [fbits_len]; omega)]
      simp only [fbits, List.getElem_map, List.getElem_range, List.length_map, List.length_range]
      rw [show a + b - 1 - i = b - 1 - (i - a) by omega]
      have hj : b - 1 - (i - a) + 1 ≤ b := by omega
      obtain ⟨d, hd⟩ : ∃ d, b = b - 1 - (i - a) + 1 + d := ⟨b - (b - 1 - (i - a) + 1), by omega⟩
      generalize b - 1 - (i - a) = j at hd
      subst hd
      rw [Nat.pow_add, Nat.pow_succ, show x * (2 ^ j * 2 * 2 ^ d) + y = y + (x * 2 ^ d * 2) * 2 ^ j by
        rw [Nat.add_comm, Nat.mul_comm (2 ^ j) 2, Nat.mul_assoc 2, Nat.mul_comm (2 ^ j) (2 ^ d), Nat.mul_comm 2, Nat.mul_assoc (2 ^ d), Nat.mul_comm (2 ^ j) 2, ← Nat.mul_assoc (2 ^ d), ← Nat.mul_assoc x, ← Nat.mul_assoc x], Nat.add_mul_div_right _ _ (Nat.two_pow_pos j), Nat.add_mul_mod_self_right]
/-- The bits of an entry's fields are those of its slot. -/
theorem sf_bits {e : En} (hm : mayB e = true) (hf : fitE e = true) : rbits ((sfE e).map nat2) = fbits 34 (slotN e) := by
  have h1 := may_e hm
  have h2 := fit_e hf
  have hv : e.value.toNat < 2 ^ 8 := by omega
  have ht : e.time.toNat < 2 ^ 21 := by omega
  have ho : e.who.toNat < 2 ^ 3 := by omega
  obtain ⟨g, hg⟩ : ∃ g : Nat, g = if e.gone = true then 1 else 0 := ⟨_, rfl⟩
  have hg1 : g < 2 ^ 1 := by rw [hg]; split <;> decide
  have hgt : (if e.gone = true then (1 : Int) else 0).toNat = g := by rw [hg]; split <;> rfl
  have hs : slotN e = 1 * 2 ^ 33 + (g * 2 ^ 32 + (e.value.toNat * 2 ^ 24 + (e.time.toNat * 2 ^ 3 + e.who.toNat))) := by
    unfold slotN
    rw [hg]
    split <;> omega
  rw [hs, show (34 : Nat) = 1 + (1 + (8 + (21 + 3))) from rfl, fbits_app 1 33 _ _ (by omega), fbits_app 1 32 _ _ (by omega), fbits_app 8 24 _ _ (by omega), fbits_app 21 3 _ _ (by omega)]
  unfold sfE
  simp only [List.map_cons, List.map_nil, nat2, rbits, hgt, List.append_nil]
  rfl
theorem sfL_bits {l : List En} (hm : ∀ e ∈ l, mayB e = true) (hf : ∀ e ∈ l, fitE e = true) (k : Nat) : rbits ((sfL l k).map nat2) = fbits 34 (slotAt l k) := by
  unfold sfL slotAt
  cases hl : look k l with
  | none =>
    simp only [List.map_cons, List.map_nil, nat2, rbits, List.append_nil]
    rfl
  | some e => exact sf_bits (hm e (look_key hl).2) (hf e (look_key hl).2)
/-- The bits of the first keys. -/
def kbits (l : List En) (k : Nat) : List Nat := (List.range k).flatMap fun j => rbits ((sfL l (j : Nat)).map nat2)
theorem kbits_succ (l : List En) (k : Nat) : kbits l (k + 1) = kbits l k ++ rbits ((sfL l (k : Nat)).map nat2) := by simp [kbits, List.range_succ]
/-- The bits of some of the lists. -/
def lbits (st : List (List En)) (js : List Nat) : List Nat := js.flatMap fun i => kbits (st.getD i []) 8
theorem lbits_snoc (st : List (List En)) (js : List Nat) (j : Nat) : lbits st (js ++ [j]) = lbits st js ++ kbits (st.getD j []) 8 := by simp [lbits]
theorem kbits_slots {l : List En} (hm : ∀ e ∈ l, mayB e = true) (hf : ∀ e ∈ l, fitE e = true) : kbits l 8 = rbits ((fldL 34 (slotsL l)).map nat2) := by
  have key : ∀ k, kbits l k = rbits ((fldL 34 ((List.range k).map fun j => ((slotAt l j : Nat) : Int))).map nat2) := by
    intro k
    induction k with
    | zero => rfl
    | succ k ih =>
      rw [kbits_succ, ih, List.range_succ, List.map_append]
      unfold fldL
      rw [List.map_append, List.map_append, rbits_append, sfL_bits hm hf]
      congr 1
  exact key 8
theorem lbits_flat {st : List (List En)} (hm : st.all mayL = true) {js : List Nat} (hj : ∀ j ∈ js, j < st.length) (hr : roomB st js = true) : lbits st js = rbits ((fldL 34 (flatS st js)).map nat2) := by
  induction js with
  | nil => rfl
  | cons j js ih =>
    have hlt := hj j List.mem_cons_self
    have hg : st.getD j [] = st[j] := by rw [List.getD_eq_getElem?_getD, List.getElem?_eq_getElem hlt]; rfl
    have h1 := List.all_eq_true.1 hm (st[j]) (List.getElem_mem hlt)
    unfold roomB at hr
    rw [List.all_cons, Bool.and_eq_true] at hr
    have h2 := hr.1
    rw [hg] at h2
    have e1 : lbits st (j :: js) = kbits (st.getD j []) 8 ++ lbits st js := rfl
    have e2 : flatS st (j :: js) = slotsL (st.getD j []) ++ flatS st js := rfl
    rw [e1, e2, ih (fun i hi => hj i (List.mem_cons_of_mem _ hi)) hr.2, hg, kbits_slots ((may_iff _).1 h1).2.1 (List.all_eq_true.1 h2)]
    unfold fldL
    rw [List.map_append, List.map_append, rbits_append]
theorem lbits_len {st : List (List En)} (hm : st.all mayL = true) {js : List Nat} (hj : ∀ j ∈ js, j < st.length) (hr : roomB st js = true) : (lbits st js).length = 34 * (flatS st js).length := by
  rw [lbits_flat hm hj hr, rbits_len]
  unfold fldL
  rw [List.map_map, List.map_map]
  generalize flatS st js = vs
  induction vs with
  | nil => rfl
  | cons v vs ih =>
    rw [List.map_cons, List.sum_cons, ih, List.length_cons]
    show 34 + _ = _
    omega
/-- What Rumour's record is, bit by bit. -/
theorem rum_bits {c : Cf} {a b : Int} {st : List (List En)} (h : refE c a b = 0) (h1 : st.length = c.ls.length) (h2 : st.all mayL = true) (h3 : roomB st (comL c.ls a b c.ls.length) = true) :
    rumE c a b st = 0 ∧ rumB c a b st = bytesOf (lbits st (comL c.ls a b c.ls.length)) (((lbits st (comL c.ls a b c.ls.length)).length + 7) / 8) := by
  have hj : ∀ j ∈ comL c.ls a b c.ls.length, j < st.length := fun j hj => by rw [h1]; exact com_lt hj
  have hl := com_len c.ls a b c.ls.length
  have h4 := (may_all (ref_may h).1).2.1
  have hlen := flatS_len st (comL c.ls a b c.ls.length)
  refine ⟨(rum_ok h h1 h2 h3).1, ?_⟩
  rw [(rum_ok h h1 h2 h3).2, (pack34 (by omega) (flat_lt h2 hj h3)).2, lbits_len h2 hj h3, lbits_flat h2 hj h3]
end Plain

/-- Fields, cell by cell. -/
def fldG (l : List (Int × Int)) (j : Nat) : Value := if j % 2 = 0 then .int .i64 (l.getD (j / 2) (0, 0)).1 else .int .i64 (l.getD (j / 2) (0, 0)).2
theorem lvals_G (l : List (Int × Int)) (j : Nat) (h : j < l.length * 2) : (lvals l)[j]? = some (fldG l j) := by
  unfold fldG
  by_cases e : j % 2 = 0
  · rw [if_pos e]
    have := (lvals_get l (j / 2) (by omega)).1
    rwa [show j / 2 * 2 = j by omega] at this
  · rw [if_neg e]
    have := (lvals_get l (j / 2) (by omega)).2
    rwa [show j / 2 * 2 + 1 = j by omega] at this
/-- Fields in a block of their own. -/
theorem fields_new (W : World) (l : List (Int × Int)) (cs : Array Value) (h : cs.toList = lvals l) : (W.alloc (.cells cs 56)).rowIs W.heap.size 56 (l.length * 2) (fldG l) := by
  refine ⟨cs, Deep.blk_alloc_new _ _, ?_, fun i hi => ?_⟩
  · rw [← Array.length_toList, h, lvals_len]
  · rw [← Array.getElem?_toList, h]
    exact lvals_G l i hi
set_option maxHeartbeats 4000000 in
theorem slotFields_c (v : Value) (l : List Plain.En) (key : Int) (w : World) (hs : SegN w v l) (hl : Lies w.heap.size v) (hle : l.length ≤ 9223372036854775807) :
    Calls Try.prog 39 #[v, .int .i64 key] w fun e w' => ∃ fb, e = .returned (.slice (some ⟨fb, 0, none⟩) (Plain.sfL l key).length (Plain.sfL l key).length) ∧ w'.rowIs fb 56 ((Plain.sfL l key).length * 2) (fldG (Plain.sfL l key)) ∧ Below w.heap.size w w' := by
  obtain ⟨p, c, rfl, _⟩ := hs.form
  have HS := hid (fun (X : World) (b : Below w.heap.size w X) => segN_at (hs.below b hl))
  clear hs hl
  go_enter Try.func39, Try.ntmps39
  go_wp2
  go_loopg [4, 6, 7, 10] l.length (fun gg _ _ _ s10 wr => ∃ k : Nat, k ≤ l.length ∧ l.length - k ≤ gg ∧ s10 = .int .i64 k ∧ Aside (Plain.look key (l.take k) = none) ∧ Aside (Below w.heap.size w wr))
  case atStart => exact ⟨0, Nat.zero_le _, by omega, rfl, rfl, Below.refl _ _⟩
  case round =>
    obtain ⟨k, hk, hg, rfl, A, BW⟩ := hrel
    by_cases hlt : k < l.length
    · have hltz : (k : Int) < (l.length : Int) := by omega
      obtain ⟨b, off, rfl, hc⟩ := HS.out wr BW.out (by omega)
      obtain ⟨c0, c1, c2, c3, c4⟩ := hc k hlt
      obtain ⟨x, hx⟩ : ∃ x, x = Plain.en l k := ⟨_, rfl⟩
      rw [← hx] at c0 c1 c2 c3 c4
      have HX := hid hx
      clear hx hc
      have B2 := hid (show Below w.heap.size w (wr.alloc (boxE x)) from BW.out.alloc BW.out.size _)
      have HL2 := hid (show Plain.look key (l.take (k + 1)) = if x.key = key then some x else none by
        rw [List.take_succ_eq_append_getElem hlt, Plain.look_app, A.out, ← Plain.en_lt hlt, ← HX.out, Plain.look_cons, Plain.look_nil]
        split <;> rfl)
      have HLK := hid (show x.key = key → Plain.look key l = some x from fun h => by
        have e : l = l.take (k + 1) ++ l.drop (k + 1) := (List.take_append_drop _ _).symm
        rw [e, Plain.look_app, HL2.out, if_pos h]
        rfl)
      obtain ⟨xk, xv, xt, xo, xg⟩ := x
      dsimp only at *
      cases hq : (xk == key) with
      | false =>
        have HQ := hid (show Plain.look key (l.take (k + 1)) = none by rw [HL2.out, if_neg (fun h => by rw [h] at hq; simp at hq)])
        go_wp2
        go_roundg (l.length - (k + 1))
        case measure => omega
        case rel => exact ⟨k + 1, by omega, by omega, by go_num, (show Aside _ from HQ.out), (show Aside _ from B2.out)⟩
      | true =>
        have HQ := hid (show Plain.sfL l key = Plain.sfE ⟨xk, xv, xt, xo, xg⟩ by unfold Plain.sfL; rw [HLK.out (by simpa using hq)])
        clear HLK HL2
        cases xg with
        | false =>
          have R := hid (fields_new (wr.alloc (boxE ⟨xk, xv, xt, xo, false⟩)) [(1, 1), (1, 0), (8, xv), (21, xt), (3, xo)] #[.int .i64 1, .int .i64 1, .int .i64 1, .int .i64 0, .int .i64 8, .int .i64 xv, .int .i64 21, .int .i64 xt, .int .i64 3, .int .i64 xo] rfl)
          have B3 := hid (B2.out.alloc B2.out.size (.cells #[.int .i64 1, .int .i64 1, .int .i64 1, .int .i64 0, .int .i64 8, .int .i64 xv, .int .i64 21, .int .i64 xt, .int .i64 3, .int .i64 xo] 56))
          have HSZ := hid (show (wr.alloc (boxE ⟨xk, xv, xt, xo, false⟩)).heap.size = wr.heap.size + 1 by simp)
          go_wp2
          go_ret
          refine ⟨wr.heap.size + 1, by rw [HQ.out]; rfl, ?_, B3.out⟩
          rw [HQ.out]
          have r := R.out
          rw [HSZ.out] at r
          exact r
        | true =>
          have R := hid (fields_new (wr.alloc (boxE ⟨xk, xv, xt, xo, true⟩)) [(1, 1), (1, 1), (8, xv), (21, xt), (3, xo)] #[.int .i64 1, .int .i64 1, .int .i64 1, .int .i64 1, .int .i64 8, .int .i64 xv, .int .i64 21, .int .i64 xt, .int .i64 3, .int .i64 xo] rfl)
          have B3 := hid (B2.out.alloc B2.out.size (.cells #[.int .i64 1, .int .i64 1, .int .i64 1, .int .i64 1, .int .i64 8, .int .i64 xv, .int .i64 21, .int .i64 xt, .int .i64 3, .int .i64 xo] 56))
          have HSZ := hid (show (wr.alloc (boxE ⟨xk, xv, xt, xo, true⟩)).heap.size = wr.heap.size + 1 by simp)
          go_wp2
          go_ret
          refine ⟨wr.heap.size + 1, by rw [HQ.out]; rfl, ?_, B3.out⟩
          rw [HQ.out]
          have r := R.out
          rw [HSZ.out] at r
          exact r
    · have hltz : ¬ (k : Int) < (l.length : Int) := by omega
      have ek : k = l.length := by omega
      subst ek
      have ha := A.out
      rw [List.take_length] at ha
      have HQ := hid (show Plain.sfL l key = [(34, 0)] by unfold Plain.sfL; rw [ha])
      clear A ha
      go_wp2
      go_ret
      refine ⟨wr.heap.size, by rw [HQ.out]; rfl, ?_, BW.out.alloc BW.out.size _⟩
      rw [HQ.out]
      exact fields_new wr [(34, 0)] _ rfl
end Go.Proofs.Ytkmnofmhjoehial
