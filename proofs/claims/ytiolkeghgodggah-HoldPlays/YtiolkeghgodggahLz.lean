/-
  slices.DeleteFunc at a row of open holds: those that are over go.
-/
import Derived.Test.YtiolkeghgodggahLy
namespace Go.Proofs.Ytiolkeghgodggah.Hd
open Go.RowKit Go.Shelf Go.Sort

namespace Plain
/-- What lies in the row on the way: i of the first j are kept. -/
structure KeptP (l M : List Pt) (i j : Nat) : Prop where
  len : M.length = l.length
  lt : i < j
  le : j ≤ l.length
  low : M.take i = (l.take j).filter live
  high : M.drop j = l.drop j
theorem live_over (p : Pt) : live p = !isOver p := by unfold live isOver; rfl
theorem getD_el (l : List Pt) (k : Nat) (hk : k < l.length) : l.getD k default = l[k] := by rw [List.getD_eq_getElem?_getD, List.getElem?_eq_getElem hk]; rfl
theorem KeptP.start {l : List Pt} {k : Nat} (hk : k < l.length) (hg : isOver (l.getD k default) = true) (ha : ∀ j, j < k → isOver (l.getD j default) = false) : KeptP l l k (k + 1) := by
  refine ⟨rfl, by omega, hk, ?_, rfl⟩
  have h1 : (l.take k).filter live = l.take k := by
    rw [List.filter_eq_self]
    intro x hx
    obtain ⟨j, hj, rfl⟩ := List.mem_take_iff_getElem.1 hx
    have := ha j (by omega)
    rw [getD_el l j (by omega)] at this
    rw [live_over, this]
    rfl
  rw [getD_el l k hk] at hg
  have h2 : [l[k]].filter live = [] := by simp [live_over, hg]
  rw [List.take_succ_eq_append_getElem hk, List.filter_append, h1, h2, List.append_nil]
theorem KeptP.at {l M : List Pt} {i j : Nat} (h : KeptP l M i j) : M.getD j default = l.getD j default := by
  have e := congrArg (fun x => x[0]?) h.high
  simp only [List.getElem?_drop, Nat.add_zero] at e
  rw [List.getD_eq_getElem?_getD, List.getD_eq_getElem?_getD, e]
theorem KeptP.keep {l M : List Pt} {i j : Nat} (h : KeptP l M i j) (hj : j < l.length) (hg : isOver (l.getD j default) = false) : KeptP l (M.set i (l.getD j default)) (i + 1) (j + 1) := by
  have hi : i < M.length := by have := h.len; have := h.lt; omega
  have hlt := h.lt
  have hlen := h.len
  refine ⟨by rw [List.length_set]; exact h.len, by omega, hj, ?_, ?_⟩
  · rw [List.take_succ_eq_append_getElem hj, List.filter_append, ← h.low, List.take_succ_eq_append_getElem (by rw [List.length_set]; exact hi), List.getElem_set_self, List.take_set_of_le (Nat.le_refl _)]
    rw [getD_el l j hj] at hg ⊢
    congr 1
    simp [live_over, hg]
  · rw [List.drop_set_of_lt (by omega), ← List.drop_drop, ← List.drop_drop, h.high]
theorem KeptP.skip {l M : List Pt} {i j : Nat} (h : KeptP l M i j) (hj : j < l.length) (hg : isOver (l.getD j default) = true) : KeptP l M i (j + 1) := by
  refine ⟨h.len, Nat.lt_succ_of_lt h.lt, hj, ?_, ?_⟩
  · rw [List.take_succ_eq_append_getElem hj, List.filter_append, ← h.low]
    rw [getD_el l j hj] at hg
    simp [live_over, hg]
  · rw [← List.drop_drop, ← List.drop_drop, h.high]
theorem KeptP.done {l M : List Pt} {i : Nat} (h : KeptP l M i l.length) : M.take i = l.filter live := by rw [h.low, List.take_length]
end Plain

/-- An open hold is laid over another one, cell by cell. -/
def setP (w : World) (g o : Nat) (y : Plain.Pt) : World := ((w.setCell ⟨g, o, none⟩ (.int .i64 y.id)).setCell ⟨g, o + 1, none⟩ (.int .i64 y.count)).setCell ⟨g, o + 2, none⟩ (.int .i64 y.ticks)
theorem setP_size (w : World) (g o : Nat) (y : Plain.Pt) : (setP w g o y).heap.size = w.heap.size := by simp [setP, World.setCell]
theorem vals_setP (l : List Plain.Pt) (i : Nat) (hi : i < l.length) (y : Plain.Pt) : (((encP.vals l).set (i * 3) (.int .i64 y.id)).set (i * 3 + 1) (.int .i64 y.count)).set (i * 3 + 2) (.int .i64 y.ticks) = encP.vals (l.set i y) := by
  induction l generalizing i with
  | nil => simp at hi
  | cons p l ih =>
    cases i with
    | zero => rfl
    | succ i =>
      have := ih i (by simpa using hi)
      rw [encP.vals_cons, List.set_cons_succ, encP.vals_cons, ← this]
      have hl : (encP.enc p).length = 3 := encP.len p
      rw [List.set_append_right _ _ (by omega), List.set_append_right _ _ (by omega), List.set_append_right _ _ (by omega), hl, show (i + 1) * 3 - 3 = i * 3 by omega, show (i + 1) * 3 + 1 - 3 = i * 3 + 1 by omega, show (i + 1) * 3 + 2 - 3 = i * 3 + 2 by omega]
theorem ownP_set {w : World} {B g n c : Nat} {l : List Plain.Pt} (h : w.ownsRow B 73 3 (.slice (some ⟨g, 0, none⟩) n c) n (encP.vals l)) (hn : l.length = n) (i : Nat) (hi : i < n) (y : Plain.Pt) :
    (setP w g (i * 3) y).ownsRow B 73 3 (.slice (some ⟨g, 0, none⟩) n c) n (encP.vals (l.set i y)) ∧ w.grownBy (setP w g (i * 3) y) (some g) := by
  have h1 := (h.stored (i * 3) (.int .i64 y.id)).1
  have h2 := (h1.stored (i * 3 + 1) (.int .i64 y.count)).1
  have h3 := (h2.stored (i * 3 + 2) (.int .i64 y.ticks)).1
  rw [vals_setP l i (by omega)] at h3
  refine ⟨h3, ⟨rfl, rfl, rfl, by rw [setP_size]; exact Nat.le_refl _, fun k hk hr => ?_⟩⟩
  have hne : k ≠ g := fun e => hr (by rw [e])
  unfold setP
  rw [Below.heap_setCell _ ⟨g, _, none⟩ _ k hne, Below.heap_setCell _ ⟨g, _, none⟩ _ k hne, Below.heap_setCell _ ⟨g, _, none⟩ _ k hne]
theorem below2P (w : World) (a b : Obj) : Below w.heap.size w ((w.alloc a).alloc b) := ((Below.refl _ _).alloc (Nat.le_refl _) _).alloc (by simp) _

set_option maxHeartbeats 4000000 in
set_option maxRecDepth 100000 in
theorem drop_some (g n c B : Nat) (l : List Plain.Pt) (hn : l.length = n) (h0 : 0 < n) (hl : n ≤ 1000) (w : World) (h : w.ownsRow B 73 3 (.slice (some ⟨g, 0, none⟩) n c) n (encP.vals l)) :
    Calls Try.prog 46 #[.slice (some ⟨g, 0, none⟩) n c, .func (.func 47) #[] #[]] w fun e w' =>
      ∃ m, e = .returned (.slice (some ⟨g, 0, none⟩) m c) ∧ (l.filter Plain.live).length = m ∧ w'.ownsRow B 73 3 (.slice (some ⟨g, 0, none⟩) m c) m (encP.vals (l.filter Plain.live)) ∧ w.grownBy w' (some g) := by
  obtain ⟨cur0, hb0, hcs, hnc, hcm, hge⟩ := own_cur h
  have hc63 : c ≤ 9223372036854775807 := by unfold maxLen at hcm; omega
  have hgw : g < w.heap.size := (Array.getElem?_eq_some_iff.1 hb0).1
  have cells : ∀ (M : List Plain.Pt) (wx : World), M.length = n → wx.ownsRow B 73 3 (.slice (some ⟨g, 0, none⟩) n c) n (encP.vals M) → (∀ j, j < n → CellP wx g (j * 3) (M.getD j default)) ∧ (∀ j, wx.frozen? ⟨g, j, none⟩ = false) := fun M wx hM hx => by
    have hx' : OwnP wx B (.slice (some ⟨g, 0, none⟩) n c) M := by show World.ownsRow _ _ _ _ _ M.length _; rw [hM]; exact hx
    obtain ⟨p, c', e, _, _, hf⟩ := ownP_form hx'
    obtain ⟨g', e', _, _, h1, h2⟩ := hf (by omega)
    subst e'
    simp only [Value.slice.injEq, Option.some.injEq, Addr.mk.injEq, and_true] at e
    obtain ⟨rfl, _, _⟩ := e
    exact ⟨fun j hj => h1 j (by omega), h2⟩
  obtain ⟨r, hr⟩ := Plain.found_any Plain.isOver l
  have KI := overIndex_c (some ⟨g, 0, none⟩) n c l w hn (by omega) r hr (fun _ => ⟨g, 0, rfl, hgw, fun j hj => by rw [Nat.zero_add]; exact (cells l w hn h).1 j hj⟩)
  have HC := hid cells
  have HO := hid h
  have HN := hid hn
  clear h hcm cells hb0 hcs
  rcases hr with ⟨e1, hall⟩ | ⟨k0, hk0, e1, ht, hall⟩
  · subst e1
    have HF := hid (show l.filter Plain.live = l by
      rw [List.filter_eq_self]
      intro x hx
      obtain ⟨j, hj, rfl⟩ := List.getElem_of_mem hx
      have := hall j hj
      rw [Plain.getD_el l j hj] at this
      rw [Plain.live_over, this]
      rfl)
    clear hall
    go_enter Try.func46, Try.ntmps46
    go_wp2_with fail
    refine KI.mono ?_
    rintro e w1 ⟨rfl, b1⟩
    go_wp2
    go_ret
    exact ⟨n, rfl, by rw [HF.out]; exact HN.out, by rw [HF.out]; exact owns_grow HO.out b1, grownBy_below b1⟩
  · subst e1
    have hne1 : ((k0 : Int) == -1) = false := beq_eq_false_iff_ne.2 (by omega)
    have HK := hid (Plain.KeptP.start hk0 ht hall)
    clear hall ht
    go_enter Try.func46, Try.ntmps46
    go_wp2_with fail
    refine KI.mono ?_
    rintro e w1 ⟨rfl, b1⟩
    go_wp2
    have HO1 := hid (owns_grow HO.out b1)
    have HB1 := hid (grownBy_below (r := some g) b1)
    clear b1 KI hne1
    go_loopw [5, 6] (fun s5 s6 wx => ∃ (i j : Nat) (M : List Plain.Pt), s5 = .int .i64 i ∧ s6 = .int .i64 j ∧ Plain.KeptP l M i j ∧ wx.ownsRow B 73 3 (.slice (some ⟨g, 0, none⟩) n c) n (encP.vals M) ∧ w.grownBy wx (some g)) (fun _ s6 _ => n - (intOf s6).toNat)
    case atStart => exact ⟨k0, k0 + 1, l, rfl, by go_num, HK.out, HO1.out, HB1.out⟩
    case round =>
      obtain ⟨i, j, M, rfl, rfl, hK, hO, hbel⟩ := hrel
      have hKl := hK.len
      have hKi := hK.lt
      have hKj := hK.le
      rw [HN.out] at hKl hKj
      have HCC := hid (HC.out M wr hKl hO)
      by_cases hlt : j < n
      · have hlt' : (j : Int) < (n : Int) := by omega
        obtain ⟨x0, x1, x2⟩ := HCC.out.1 j hlt
        obtain ⟨y0, y1, y2⟩ := HCC.out.1 i (by omega)
        rw [hK.at] at x0 x1 x2
        have f0 := HCC.out.2 (i * 3)
        have f1 := HCC.out.2 (i * 3 + 1)
        have f2 := HCC.out.2 (i * 3 + 2)
        have HKK := hid hK
        have HOO := hid hO
        have HBB := hid hbel
        have hgr2 : g < wr.heap.size := Nat.lt_of_lt_of_le hgw hbel.size
        clear hK hO hbel HCC
        have KC := fun W => over1_c (l.getD j default) W
        generalize hy : l.getD j default = y at x0 x1 x2 KC
        have HY := hid hy
        clear hy
        generalize M.getD i default = z at y0 y1 y2
        obtain ⟨ya, yb, yc⟩ := y
        obtain ⟨za, zb, zc⟩ := z
        dsimp only at x0 x1 x2 y0 y1 y2 KC
        have hi' : (i : Int) < (n : Int) := by omega
        cases ho : Plain.isOver ⟨ya, yb, yc⟩ with
        | true =>
          rw [ho] at KC
          go_wp2_with (go_at_call 47; refine (KC _).mono ?_; rintro e w' ⟨rfl, rfl⟩)
          go_roundw
          case rel => exact ⟨i, j + 1, M, rfl, by go_num, HKK.out.skip (by rw [HN.out]; exact hlt) (by rw [HY.out]; exact ho), owns_grow HOO.out (below2P _ _ _), grownBy_trans HBB.out (grownBy_below (below2P _ _ _))⟩
          case measure => simp [intOf]; omega
        | false =>
          rw [ho] at KC
          go_wp2_with (go_at_call 47; refine (KC _).mono ?_; rintro e w' ⟨rfl, rfl⟩)
          go_roundw
          case rel =>
            have hs := ownP_set HOO.out hKl i (by omega) ⟨ya, yb, yc⟩
            refine ⟨i + 1, j + 1, M.set i ⟨ya, yb, yc⟩, by go_num, by go_num, ?_, owns_grow hs.1 (below2P (setP wr g (i * 3) ⟨ya, yb, yc⟩) _ _), grownBy_trans (grownBy_trans HBB.out hs.2) (grownBy_below (below2P (setP wr g (i * 3) ⟨ya, yb, yc⟩) _ _))⟩
            have := HKK.out.keep (by rw [HN.out]; exact hlt) (by rw [HY.out]; exact ho)
            rwa [HY.out] at this
          case measure => simp [intOf]; omega
      · have ej : j = n := by omega
        subst ej
        obtain ⟨cur, hb, hcs, _, _, _⟩ := own_cur hO
        obtain ⟨zs, hzl, hcl⟩ := run_clear_rowK (P := Try.prog) wr 48 73 g (i * 3) (j - i) (c - i) 3 _ cur 73 Try.underlying48 zeroPart rfl (by intro v hv; simp [Value.cells] at hv; subst hv; rfl) hb (by omega) (by rw [hcs]; omega)
        have R1 := hid (own_clear (o := i * 3) (own_take hO (i := i) (by omega)) hb (Nat.le_refl _) (show i * 3 + zs.length ≤ c * 3 by rw [hzl]; omega))
        have R2 := hid (grownBy_trans hbel (grownBy_setRow wr g (cur.toList.take (i * 3) ++ zs ++ cur.toList.drop (i * 3 + zs.length)).toArray))
        generalize wr.setRow g (cur.toList.take (i * 3) ++ zs ++ cur.toList.drop (i * 3 + zs.length)).toArray = W at hcl R1 R2
        have HD := hid (show M.take i = l.filter Plain.live from by have := hK; rw [← HN.out] at this; exact this.done)
        have HV := hid (show encP.vals (l.filter Plain.live) = (encP.vals M).take (i * 3) by rw [← HD.out]; exact encP.vals_take M i (by omega))
        have HLn := hid (show (l.filter Plain.live).length = i by rw [← HD.out, List.length_take]; omega)
        have hci : ¬ c = i := by omega
        have hin : i ≤ j := by omega
        have hin' : (i : Int) ≤ (j : Int) := by omega
        have hic : (i : Int) ≤ (c : Int) := by omega
        clear hK hO hbel hb hcs hzl HCC
        go_wp2
        go_ret
        exact ⟨i, rfl, HLn.out, by rw [HV.out]; exact R1.out, R2.out⟩

/-- DeleteFunc at whatever row of the call's own. -/
theorem drop_any (v : Value) (B : Nat) (l : List Plain.Pt) (hl : l.length ≤ 1000) (w : World) (h : OwnP w B v l) :
    Calls Try.prog 46 #[v, .func (.func 47) #[] #[]] w fun e w' =>
      ∃ v', e = .returned v' ∧ OwnP w' B v' (l.filter Plain.live) ∧ w.grownBy w' v.ownBlock ∧ v'.ownBlock = v.ownBlock := by
  by_cases h0 : 0 < l.length
  · obtain ⟨p, c, rfl, _, _, hf⟩ := ownP_form h
    obtain ⟨g, rfl, _⟩ := hf h0
    refine (drop_some g l.length c B l rfl h0 hl w h).mono ?_
    rintro e w' ⟨m, h1, h2, h3, h4⟩
    refine ⟨_, h1, ?_, h4, rfl⟩
    show World.ownsRow _ _ _ _ _ (l.filter Plain.live).length _
    rw [h2]
    exact h3
  · obtain rfl : l = [] := List.length_eq_zero_iff.1 (by omega)
    obtain ⟨p, c, e, _, _, _⟩ := ownP_form h
    obtain ⟨r, hr⟩ := Plain.found_any Plain.isOver []
    have er : r = -1 := by
      rcases hr with ⟨e, _⟩ | ⟨k, hk, _⟩
      · exact e
      · simp at hk
    subst er
    have KI := overIndex_c p 0 c [] w rfl (by omega) (-1) hr (fun h => by omega)
    have e' : v = .slice p 0 c := e
    have H := hid h
    subst e'
    clear h hr
    go_enter Try.func46, Try.ntmps46
    go_wp2_with fail
    refine KI.mono ?_
    rintro e w1 ⟨rfl, b1⟩
    go_wp2
    go_ret
    exact ⟨_, rfl, owns_grow H.out b1, grownBy_below b1, rfl⟩
end Go.Proofs.Ytiolkeghgodggah.Hd
