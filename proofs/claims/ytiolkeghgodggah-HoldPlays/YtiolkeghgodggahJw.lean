/-
  The document's Tick.
-/
import Derived.Test.YtiolkeghgodggahJt
import Derived.Test.YtiolkeghgodggahJq
namespace Go.Proofs.Ytiolkeghgodggah.Hd
open Go.RowKit Go.Shelf

namespace Plain
theorem overL_next (cs ls : List Int) (k : Nat) (h1 : k < cs.length) (h2 : k < ls.length) : overL (cs.take (k + 1)) (ls.take (k + 1)) = overL (cs.take k) (ls.take k) + if ls.getD k 0 = 1 then cs.getD k 0 else 0 := by
  induction k generalizing cs ls with
  | zero =>
    cases cs with
    | nil => simp at h1
    | cons c cs =>
      cases ls with
      | nil => simp at h2
      | cons x ls => simp [overL]
  | succ k ih =>
    cases cs with
    | nil => simp at h1
    | cons c cs =>
      cases ls with
      | nil => simp at h2
      | cons x ls =>
        have := ih cs ls (by simpa using h1) (by simpa using h2)
        simp only [List.take_succ_cons, overL, this, List.getD_cons_succ]; omega
theorem overL_le {cs ls : List Int} (h : ∀ c, c ∈ cs → 0 ≤ c) : overL cs ls ≤ heldL cs ls := by
  have h1 := heldL_tick cs ls
  have h2 := heldL_nonneg (ls := tickL ls) h
  omega
/-- The first k have had their tick. -/
def tickK (r : Rk) (k : Nat) : Rk := { r with free := r.free + overL (r.cs.take k) (r.ls.take k), ls := tickL (r.ls.take k) ++ r.ls.drop k }
theorem tickK_zero (r : Rk) : tickK r 0 = r := by
  unfold tickK
  simp [overL, tickL]
theorem tickK_len (r : Rk) (k : Nat) (hk : k ≤ r.ls.length) : (tickK r k).ls.length = r.ls.length := by
  unfold tickK tickL
  simp; omega
theorem tickK_at (r : Rk) (k : Nat) (hk : k < r.ls.length) : (tickK r k).ls.getD k 0 = r.ls.getD k 0 := by
  unfold tickK
  have hl : (tickL (r.ls.take k)).length = k := by unfold tickL; simp; omega
  show (tickL (r.ls.take k) ++ r.ls.drop k).getD k 0 = _
  rw [List.getD_eq_getElem?_getD, List.getElem?_append_right (by omega), hl, Nat.sub_self, List.getElem?_drop, Nat.add_zero, List.getD_eq_getElem?_getD]
theorem tickK_all (r : Rk) (k : Nat) (h1 : r.cs.length ≤ k) (h2 : r.ls.length ≤ k) : tickK r k = { r with free := r.free + overL r.cs r.ls, ls := tickL r.ls } := by
  unfold tickK
  rw [List.take_of_length_le h1, List.take_of_length_le h2, List.drop_of_length_le h2, List.append_nil]
theorem tickK_next (r : Rk) (k : Nat) (h1 : k < r.cs.length) (h2 : k < r.ls.length) :
    tickK r (k + 1) = { r with free := (tickK r k).free + (if r.ls.getD k 0 = 1 then r.cs.getD k 0 else 0), ls := (tickK r k).ls.set k (if 0 < r.ls.getD k 0 then r.ls.getD k 0 - 1 else r.ls.getD k 0) } := by
  unfold tickK
  dsimp only
  rw [overL_next r.cs r.ls k h1 h2]
  have hl : (tickL (r.ls.take k)).length = k := by unfold tickL; simp; omega
  have e : tickL (r.ls.take (k + 1)) ++ r.ls.drop (k + 1) = (tickL (r.ls.take k) ++ r.ls.drop k).set k (if 0 < r.ls.getD k 0 then r.ls.getD k 0 - 1 else r.ls.getD k 0) := by
    have e1 : r.ls.drop k = r.ls.getD k 0 :: r.ls.drop (k + 1) := by
      rw [List.drop_eq_getElem_cons h2, List.getD_eq_getElem?_getD, List.getElem?_eq_getElem h2]; rfl
    rw [e1, List.set_append_right _ _ (by omega), hl, Nat.sub_self, List.set_cons_zero, List.take_succ_eq_append_getElem h2]
    unfold tickL
    rw [List.map_append, List.append_assoc]
    simp only [List.map_cons, List.map_nil, List.singleton_append]
    rw [List.getD_eq_getElem?_getD, List.getElem?_eq_getElem h2]
    rfl
  rw [e, Int.add_assoc]
theorem set_same (l : List Int) (k : Nat) (x : Int) (h : l.getD k 0 = x) (hk : k < l.length) : l.set k x = l := by
  apply List.ext_getElem
  · simp
  · intro j h1 h2
    rw [List.getElem_set]
    split
    · rename_i e
      subst e
      rw [← h, List.getD_eq_getElem?_getD, List.getElem?_eq_getElem hk]; rfl
    · rfl
end Plain

set_option maxHeartbeats 8000000 in
set_option maxRecDepth 100000 in
theorem ord_tick (B R : Nat) (vc vl : Value) (r : Plain.Rk) (g : Int) (hv : Plain.Hv r g) (hb : r.cs.length ≤ 900) (c l i : Int) (w : World) (h : RkI B w R vc vl r) :
    Calls Try.prog 30 #[.pointer (some ⟨R, 0, none⟩), aggO ⟨7, c, l, i⟩] w fun e w' => OrdPost B R vc vl r ⟨7, c, l, i⟩ w e w' := by
  have hE := Plain.ordE_tick r c l i
  have hI : Plain.ordI r ⟨7, c, l, i⟩ = 0 := by unfold Plain.ordI; rw [if_neg (fun x => by have := x.2; dsimp only at this; omega)]
  have hR : Plain.ordR r ⟨7, c, l, i⟩ = { r with free := r.free + Plain.overL r.cs r.ls, ls := Plain.tickL r.ls } := by
    unfold Plain.ordR
    dsimp only
    rw [if_neg (by omega), if_neg (by omega), if_neg (by omega), if_neg (by omega), if_neg (by omega), if_neg (by omega)]
  have FB := hid (fun k => show 0 ≤ (Plain.tickK r k).free ∧ (Plain.tickK r k).free ≤ 1048576 by
    have h1 := Plain.overL_le (cs := r.cs.take k) (ls := r.ls.take k) fun c hc => by have := hv.ct c (List.mem_of_mem_take hc); omega
    have h2 := Plain.heldL_part (cs := r.cs) (ls := r.ls) k fun c hc => by have := hv.ct c hc; omega
    have h3 := Plain.overL_nonneg (cs := r.cs.take k) (ls := r.ls.take k) fun c hc => by have := hv.ct c (List.mem_of_mem_take hc); omega
    have h4 := hv.sm
    have h5 := hv.fr
    have h6 := hv.us
    have h7 := hv.gb
    unfold Plain.Rk.held at h4
    show 0 ≤ r.free + Plain.overL _ _ ∧ r.free + Plain.overL _ _ ≤ 1048576
    omega)
  have HLF := hid hv.lf
  have HCT := hid hv.ct
  have hln := hv.ln
  obtain ⟨W, hW⟩ : ∃ W, W = w.alloc (boxO ⟨7, c, l, i⟩) := ⟨_, rfl⟩
  have O0 : Hid (OI B R vc vl w ⟨7, c, l, i⟩ W vc vl r) := hid (by rw [hW]; exact OI.start h)
  obtain ⟨pc, cc, pl, cl, ec, el, hfc, hfl⟩ := O0.out.rk.forms
  clear h hv hfc hfl
  have r3 := O0.out.rk.c3
  rw [el] at r3
  generalize hn : r.cs.length = n at *
  have hm : r.ls.length = n := hln.symm
  rw [hm] at r3 el
  have HN := hid hn
  have HM := hid hm
  have HEIR := hid (And.intro hE (And.intro hI hR))
  clear hn hm hln hE hI hR ec el
  go_enter Try.func30, Try.ntmps30
  rw [hW] at r3
  go_wp2
  rw [← hW]
  clear hW r3
  go_loopg [52] n (fun gg s52 wx => ∃ k : Nat, k ≤ n ∧ n - k ≤ gg ∧ s52 = .int .i64 k ∧ Aside (OI B R vc vl w ⟨7, c, l, i⟩ wx vc vl (Plain.tickK r k)))
  case atStart => exact ⟨0, Nat.zero_le _, by omega, rfl, (show Aside _ by rw [Plain.tickK_zero]; exact O0.out)⟩
  case round =>
    obtain ⟨k, hkk, hg, rfl, A⟩ := hrel
    by_cases hlt : k < n
    · have hltz : (k : Int) < (n : Int) := by omega
      have hk1 : k < r.cs.length := by rw [HN.out]; exact hlt
      have hk2 : k < r.ls.length := by rw [HM.out]; exact hlt
      have hlenK := Plain.tickK_len r k (by omega)
      obtain ⟨pc', cc', pl', cl', ec', el', hfc, hfl⟩ := A.out.rk.forms
      rw [hlenK, HM.out] at hfl el'
      have hcK : (Plain.tickK r k).cs = r.cs := rfl
      rw [hcK, HN.out] at hfc ec'
      obtain ⟨gc, egc, _, _, hcc⟩ := hfc (by omega)
      obtain ⟨gl, egl, _, _, hll⟩ := hfl (by omega)
      have cC := hcc k hlt
      have cL := (hll k hlt).1
      have fL := (hll k hlt).2
      rw [Plain.tickK_at r k hk2] at cL
      rw [egc] at ec'
      rw [egl] at el'
      clear hfc hfl hcc hll egc egl
      have AL : Hid (OI B R vc vl w ⟨7, c, l, i⟩ wr vc (.slice (some ⟨gl, 0, none⟩) (Plain.tickK r k).ls.length cl') (Plain.tickK r k)) := hid (by rw [hlenK, HM.out, ← el']; exact A.out)
      have r0 := A.out.rk.c0
      have r2 := A.out.rk.c2
      have r3 := A.out.rk.c3
      have z0 := A.out.f0
      rw [ec'] at r2
      rw [el'] at r3
      have NX := hid (Plain.tickK_next r k hk1 hk2)
      have hxb := HLF.out _ (show r.ls.getD k 0 ∈ r.ls by
        rw [List.getD_eq_getElem?_getD, List.getElem?_eq_getElem hk2]; exact List.getElem_mem _)
      have hyb := HCT.out _ (show r.cs.getD k 0 ∈ r.cs by
        rw [List.getD_eq_getElem?_getD, List.getElem?_eq_getElem hk1]; exact List.getElem_mem _)
      have hfb := FB.out k
      have SAME := hid (Plain.set_same (Plain.tickK r k).ls k (r.ls.getD k 0) (Plain.tickK_at r k hk2) (by rw [hlenK]; exact hk2))
      obtain ⟨f, hf⟩ : ∃ f, f = (Plain.tickK r k).free := ⟨_, rfl⟩
      rw [← hf] at r0 hfb NX
      have HFE := hid hf
      clear hf
      generalize r.ls.getD k 0 = x at cL NX hxb SAME
      generalize r.cs.getD k 0 = y at cC NX hyb
      obtain ⟨xb1, xb2⟩ := hxb
      obtain ⟨yb1, yb2⟩ := hyb
      obtain ⟨fb1, fb2⟩ := hfb
      have EL := hid el'
      clear hlenK hcK el' ec'
      by_cases hx1 : x = 1
      · subst hx1
        obtain ⟨f', hf'⟩ : ∃ f', f' = f + y := ⟨_, rfl⟩
        have hw1 : IntKind.i64.wrap (f + y) = f' := by rw [hf', IntKind.wrap_i64]; omega
        have NX1 := hid (show Plain.tickK r (k + 1) = { r with free := f', ls := (Plain.tickK r k).ls.set k 0 } by rw [NX.out, if_pos rfl, if_pos (by omega), ← hf']; rfl)
        clear hf' NX
        go_wp2
        go_region
        all_goals
          obtain ⟨W3, hW3⟩ : ∃ W3, W3 = (wr.setCell ⟨R, 0, none⟩ (.int .i64 f')).drew := ⟨_, rfl⟩
          rw [← hW3]
          have O3 : Hid (OI B R vc vl w ⟨7, c, l, i⟩ W3 vc (.slice (some ⟨gl, 0, none⟩) (Plain.tickK r k).ls.length cl') { Plain.tickK r k with free := f' }) := hid (by rw [hW3]; exact (AL.out.free f').drewN 1)
          have hgR : gl ≠ R := fun e => row_owns_ne AL.out.rk.row AL.out.rk.ol (by decide) (by simp [Value.ownBlock, e])
          have cL3 : W3.cell? ⟨gl, k, none⟩ = some (.int .i64 1) := by rw [hW3]; exact (cell_other (a := ⟨R, 0, none⟩) cL hgR)
          have fL3 : W3.frozen? ⟨gl, k, none⟩ = false := by
            obtain ⟨_, _, _, _, _, e2, _, h2⟩ := O3.out.rk.forms
            obtain ⟨g2, e3, _, _, h3⟩ := h2 (by show 0 < (Plain.tickK r k).ls.length; rw [Plain.tickK_len r k (by omega)]; omega)
            rw [e3] at e2
            injection e2 with e2
            injection e2 with e2
            injection e2 with e2
            subst e2
            exact (h3 k (by show k < (Plain.tickK r k).ls.length; rw [Plain.tickK_len r k (by omega)]; exact hk2)).2
          clear hW3 r0 r2 r3 z0 cC cL fL hw1
          have r3 := O3.out.rk.c3
          rw [Plain.tickK_len r k (by omega), HM.out] at r3
          have R4 := hid (show OI B R vc vl w ⟨7, c, l, i⟩ (W3.setCell ⟨gl, k, none⟩ (.int .i64 0)) vc vl (Plain.tickK r (k + 1)) by
            have := OI.left (r := { Plain.tickK r k with free := f' }) O3.out k 0
            dsimp only at this
            rw [NX1.out]
            rw [Plain.tickK_len r k (by omega), HM.out, ← EL.out] at this
            exact this)
          clear O3
          go_wp2
          go_roundg (n - (k + 1))
          case measure => omega
          case rel => exact ⟨k + 1, by omega, by omega, by go_num, R4.out⟩
      · have hx1b : (x == 1) = false := by rw [beq_eq_false_iff_ne]; exact hx1
        by_cases hx0 : 0 < x
        · have R4 := hid (show OI B R vc vl w ⟨7, c, l, i⟩ (wr.setCell ⟨gl, k, none⟩ (.int .i64 (x - 1))) vc vl (Plain.tickK r (k + 1)) by
            have := AL.out.left k (x - 1)
            rw [NX.out, if_neg hx1, if_pos hx0, Int.add_zero, HFE.out]
            rw [Plain.tickK_len r k (by omega), HM.out, ← EL.out] at this
            exact this)
          go_wp2
          go_roundg (n - (k + 1))
          case measure => omega
          case rel => exact ⟨k + 1, by omega, by omega, by go_num, R4.out⟩
        · have R4 := hid (show OI B R vc vl w ⟨7, c, l, i⟩ wr vc vl (Plain.tickK r (k + 1)) by
            rw [NX.out, if_neg hx1, if_neg hx0, Int.add_zero, HFE.out, SAME.out]
            exact A.out)
          go_wp2
          go_roundg (n - (k + 1))
          case measure => omega
          case rel => exact ⟨k + 1, by omega, by omega, by go_num, R4.out⟩
    · have hltz : ¬ (k : Int) < (n : Int) := by omega
      go_wp2
      go_ret2
      exact ordPost_yes HEIR.out.1 HEIR.out.2.1 (by rw [HEIR.out.2.2, ← Plain.tickK_all r k (by rw [HN.out]; omega) (by rw [HM.out]; omega)]) A.out.rk A.out.on
end Go.Proofs.Ytiolkeghgodggah.Hd
