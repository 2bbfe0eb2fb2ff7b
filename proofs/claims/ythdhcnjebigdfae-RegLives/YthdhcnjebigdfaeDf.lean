/-
  A contract of slices.DeleteFunc at entries in a row of the call's own; of reg.Live.
-/
import Derived.Test.YthdhcnjebigdfaeEr
import Derived.Test.YthdhcnjebigdfaeKa
namespace Go.Proofs.Ythdhcnjebigdfae
open Go.RowKit Go.Shelf

namespace Plain
def lives (e : En) : Bool := !e.gone
/-- What lies in the row on the way: i entries of the first j are kept. -/
structure Kept (l M : List En) (i j : Nat) : Prop where
  len : M.length = l.length
  lt : i < j
  le : j ≤ l.length
  low : M.take i = (l.take j).filter lives
  high : M.drop j = l.drop j
theorem Kept.start {l : List En} {k : Nat} (hk : k < l.length) (hg : (en l k).gone = true) (ha : ∀ j, j < k → (en l j).gone = false) : Kept l l k (k + 1) := by
  refine ⟨rfl, by omega, hk, ?_, rfl⟩
  have h1 : (l.take k).filter lives = l.take k := by
    rw [List.filter_eq_self]
    intro x hx
    obtain ⟨j, hj, rfl⟩ := List.mem_take_iff_getElem.1 hx
    have := ha j (by omega)
    rw [en_lt (by omega)] at this
    unfold lives
    rw [this]
    rfl
  rw [en_lt hk] at hg
  have h2 : [l[k]].filter lives = [] := by simp [lives, hg]
  rw [List.take_succ_eq_append_getElem hk, List.filter_append, h1, h2, List.append_nil]
theorem Kept.at {l M : List En} {i j : Nat} (h : Kept l M i j) : en M j = en l j := by
  have e := congrArg (fun x => x[0]?) h.high
  simp only [List.getElem?_drop, Nat.add_zero] at e
  unfold en
  rw [List.getD_eq_getElem?_getD, List.getD_eq_getElem?_getD, e]
theorem Kept.keep {l M : List En} {i j : Nat} (h : Kept l M i j) (hj : j < l.length) (hg : (en l j).gone = false) : Kept l (M.set i (en l j)) (i + 1) (j + 1) := by
  have hi : i < M.length := by have := h.len; have := h.lt; omega
  have hlt := h.lt
  have hlen := h.len
  refine ⟨by rw [List.length_set]; exact h.len, by omega, hj, ?_, ?_⟩
  · rw [List.take_succ_eq_append_getElem hj, List.filter_append, ← h.low, List.take_succ_eq_append_getElem (by rw [List.length_set]; exact hi), List.getElem_set_self, List.take_set_of_le (Nat.le_refl _)]
    rw [en_lt hj] at hg ⊢
    congr 1
    simp [lives, hg]
  · rw [List.drop_set_of_lt (by omega), ← List.drop_drop, ← List.drop_drop, h.high]
theorem Kept.skip {l M : List En} {i j : Nat} (h : Kept l M i j) (hj : j < l.length) (hg : (en l j).gone = true) : Kept l M i (j + 1) := by
  refine ⟨h.len, Nat.lt_succ_of_lt h.lt, hj, ?_, ?_⟩
  · rw [List.take_succ_eq_append_getElem hj, List.filter_append, ← h.low]
    rw [en_lt hj] at hg
    simp [lives, hg]
  · rw [← List.drop_drop, ← List.drop_drop, h.high]
theorem Kept.done {l M : List En} {i : Nat} (h : Kept l M i l.length) : M.take i = l.filter lives := by rw [h.low, List.take_length]
end Plain

theorem live1_c (e : Plain.En) (w : World) : Calls Try.prog 38 #[aggE e] w fun r w' => r = .returned (.bool e.gone) ∧ w' = w.alloc (boxE e) := by
  obtain ⟨k, v, t, o, g⟩ := e
  go_enter Try.func38, Try.ntmps38
  go_wp2
  go_ret
  exact ⟨rfl, rfl⟩
theorem pred_live (w : World) : PredN 38 (fun e => e.gone) w := fun W x hb =>
  (live1_c x W).mono fun e w' ⟨h1, h2⟩ => ⟨h1, by rw [h2]; exact hb.alloc hb.size _⟩

namespace Plain
theorem idx_spec (p : En → Bool) (l : List En) : (idx p l = -1 ∧ ∀ j, j < l.length → p (en l j) = false) ∨ ∃ k : Nat, k < l.length ∧ idx p l = k ∧ p (en l k) = true ∧ ∀ j, j < k → p (en l j) = false := by
  unfold idx
  by_cases h : l.findIdx p < l.length
  · right
    refine ⟨l.findIdx p, h, by rw [if_pos h], by rw [en_lt h]; exact List.findIdx_getElem, fun j hj => ?_⟩
    rw [en_lt (by omega)]
    have := List.not_of_lt_findIdx hj
    simpa using this
  · left
    refine ⟨by rw [if_neg h], fun j hj => ?_⟩
    have e : l.findIdx p = l.length := by have := List.findIdx_le_length (p := p) (xs := l); omega
    rw [List.findIdx_eq_length] at e
    rw [en_lt hj]
    exact e _ (List.getElem_mem hj)
end Plain

theorem zeroEntry (w : World) : (zeroValue 40).run Try.prog w = .ok (.agg #[.int .i64 0, .int .i64 0, .int .i64 0, .int .i64 0, .bool false]) w := by
  obtain ⟨i0, hi, hz0, _, _⟩ := info_parts Try.infoEntry
  simp [zeroValue, typeInfo, hi, hz0]
theorem below2 (w : World) (a b : Obj) : Below w.heap.size w ((w.alloc a).alloc b) := ((Below.refl _ _).alloc (Nat.le_refl _) _).alloc (by simp) _
theorem setE_size (w : World) (g o : Nat) (y : Plain.En) : (setE w g o y).heap.size = w.heap.size := by simp [setE, World.setCell]
/-- What is left of the row when the rest is cleared. -/
theorem OwnN.cut {w : World} {B T g n c i : Nat} {cur : Array Value} {M : List Plain.En} {zs : List Value} (hB : B ≤ g) (hb : w.heap[g]? = some (.cells cur T (0, 0))) (hc : n ≤ c) (hm : c ≤ maxLen) (hs : cur.size = c * 5)
    (ht : cur.toList.take (M.length * 5) = evals M) (hM : M.length = n) (hi : i ≤ n) (hz : zs.length = (n - i) * 5) :
    OwnN (w.setRow g (cur.toList.take (i * 5) ++ zs ++ cur.toList.drop (i * 5 + zs.length)).toArray) B T (.slice (some ⟨g, 0, none⟩) i c) (M.take i) := by
  have hlen : (M.take i).length = i := by rw [List.length_take]; omega
  have hcl : cur.toList.length = c * 5 := by rw [Array.length_toList]; exact hs
  have key := OwnN.mk (w := w.setRow g (cur.toList.take (i * 5) ++ zs ++ cur.toList.drop (i * 5 + zs.length)).toArray) (l := M.take i) (T := T) (cap := c) hB (setRow_heap w g _ _ T _ hb) (by omega) hm (by
      simp only [List.size_toArray, List.length_append, List.length_take, List.length_drop, hcl]
      omega) (by
      rw [hlen, ← (evals_split M i (by omega)).1, ← ht, List.take_take, Nat.min_eq_left (by omega)]
      have h1 : (cur.toList.take (i * 5)).length = i * 5 := by rw [List.length_take]; omega
      rw [List.append_assoc, List.take_append_of_le_length (by omega), List.take_of_length_le (by omega)])
  rw [hlen] at key
  exact key

set_option maxHeartbeats 4000000 in
set_option maxRecDepth 100000 in
theorem delete_some (g n c B : Nat) (l : List Plain.En) (hn : l.length = n) (h0 : 0 < n) (hl : n ≤ 1000) (w : World) (hB : B ≤ w.heap.size) (h : OwnN w B 40 (.slice (some ⟨g, 0, none⟩) n c) l) :
    Calls Try.prog 37 #[.slice (some ⟨g, 0, none⟩) n c, .func (.func 38) #[] #[]] w fun e w' =>
      ∃ v', e = .returned v' ∧ OwnN w' B 40 v' (l.filter Plain.lives) ∧ Below B w w' := by
  have eg : ∀ args w, (callFunc 38 args).run Try.prog w = .ok (.enter 38 args) w := enters_of Try.func38 (by kernel_rfl) rfl
  have hs := h.seg
  have KI := index_any (fun e => e.gone) 38 eg _ l w (pred_live w) (by omega) hs.1 hs.2
  clear eg
  obtain ⟨g', c', e, hBg, hgw, hnc, hc63⟩ := h.at (by omega)
  simp only [Value.slice.injEq, Option.some.injEq, Addr.mk.injEq, and_true] at e
  obtain ⟨rfl, hnl, rfl⟩ := e
  rw [← hnl] at hnc
  clear hnl
  have HO := hid h
  have HN := hid hn
  clear h hs
  rcases Plain.idx_spec (fun e => e.gone) l with ⟨e1, hall⟩ | ⟨k0, hk0, e1, ht, hall⟩
  · rw [e1] at KI
    have HF := hid (show l.filter Plain.lives = l by
      rw [List.filter_eq_self]
      intro x hx
      obtain ⟨j, hj, rfl⟩ := List.getElem_of_mem hx
      have := hall j hj
      rw [Plain.en_lt hj] at this
      simp [Plain.lives, this])
    clear e1 hall
    go_enter Try.func37, Try.ntmps37
    go_wp2_with fail
    refine KI.mono ?_
    rintro e w1 ⟨rfl, b1⟩
    go_wp2
    go_ret
    exact ⟨_, rfl, by rw [HF.out]; exact HO.out.grow b1, b1.mono hB⟩
  · rw [e1] at KI
    have hne1 : ((k0 : Int) == -1) = false := beq_eq_false_iff_ne.2 (by omega)
    have HK := hid (Plain.Kept.start hk0 ht hall)
    clear e1 hall ht
    go_enter Try.func37, Try.ntmps37
    go_wp2_with fail
    refine KI.mono ?_
    rintro e w1 ⟨rfl, b1⟩
    go_wp2
    have HO1 := hid (HO.out.grow b1)
    have HB1 := hid (b1.mono hB)
    have HS1 := hid b1.size
    clear b1 KI hne1
    go_loopw [5, 6] (fun s5 s6 wx => ∃ (i j : Nat) (M : List Plain.En), s5 = .int .i64 i ∧ s6 = .int .i64 j ∧ Plain.Kept l M i j ∧ OwnN wx B 40 (.slice (some ⟨g, 0, none⟩) n c) M ∧ Below B w wx ∧ w.heap.size ≤ wx.heap.size) (fun _ s6 _ => n - (intOf s6).toNat)
    case atStart => exact ⟨k0, k0 + 1, l, rfl, by go_num, HK.out, HO1.out, HB1.out, HS1.out⟩
    case round =>
      obtain ⟨i, j, M, rfl, rfl, hK, hO, hbel, hsz⟩ := hrel
      have hKl := hK.len
      have hKi := hK.lt
      have hKj := hK.le
      rw [HN.out] at hKl hKj
      by_cases hlt : j < n
      · have hlt' : (j : Int) < (n : Int) := by omega
        obtain ⟨x0, x1, x2, x3, x4⟩ := hO.cells j (by omega)
        obtain ⟨y0, y1, y2, y3, y4⟩ := hO.cells i (by omega)
        rw [hK.at] at x0 x1 x2 x3 x4
        simp only [Nat.zero_add] at x0 x1 x2 x3 x4 y0 y1 y2 y3 y4
        have f0 := hO.frozen (by omega) (i * 5)
        have f1 := hO.frozen (by omega) (i * 5 + 1)
        have f2 := hO.frozen (by omega) (i * 5 + 2)
        have f3 := hO.frozen (by omega) (i * 5 + 3)
        have f4 := hO.frozen (by omega) (i * 5 + 4)
        have HKK := hid hK
        have HOO := hid hO
        have HBB := hid hbel
        have hgr := (hO.seg).2 ⟨g, 0, none⟩ _ _ rfl (by omega)
        have hgr2 : g < wr.heap.size := hgr
        clear hK hO hbel hgr
        have KC := fun W => live1_c (Plain.en l j) W
        generalize hy : Plain.en l j = y at x0 x1 x2 x3 x4 KC
        have HY := hid hy
        clear hy
        generalize Plain.en M i = z at y0 y1 y2 y3 y4
        obtain ⟨yk, yv, yt, yo, yg⟩ := y
        obtain ⟨zk, zv, zt, zo, zg⟩ := z
        dsimp only at x0 x1 x2 x3 x4 y0 y1 y2 y3 y4 KC
        have hi' : (i : Int) < (n : Int) := by omega
        cases yg with
        | true =>
          go_wp2_with (go_at_call 38; refine (KC _).mono ?_; rintro e w' ⟨rfl, rfl⟩)
          go_roundw
          case rel => exact ⟨i, j + 1, M, rfl, by go_num, HKK.out.skip (by rw [HN.out]; exact hlt) (by rw [HY.out]), HOO.out.grow (below2 _ _ _), HBB.out.trans ((below2 _ _ _).mono (by omega)), by simp; omega⟩
          case measure => simp [intOf]; omega
        | false =>
          go_wp2_with (go_at_call 38; refine (KC _).mono ?_; rintro e w' ⟨rfl, rfl⟩)
          go_roundw
          case rel =>
            have hs1 := setE_size wr g (i * 5) ⟨yk, yv, yt, yo, false⟩
            refine ⟨i + 1, j + 1, M.set i ⟨yk, yv, yt, yo, false⟩, by go_num, by go_num, ?_, (HOO.out.set i (by omega) ⟨yk, yv, yt, yo, false⟩).grow (below2 _ _ _), (below_setE HBB.out hBg ⟨yk, yv, yt, yo, false⟩).trans ((below2 (setE wr g (i * 5) ⟨yk, yv, yt, yo, false⟩) _ _).mono (by omega)), ?_⟩
            · have := HKK.out.keep (by rw [HN.out]; exact hlt) (by rw [HY.out])
              rwa [HY.out] at this
            · show w.heap.size ≤ (((setE wr g (i * 5) ⟨yk, yv, yt, yo, false⟩).alloc _).alloc _).heap.size
              simp [hs1]
              omega
          case measure => simp [intOf]; omega
      · have ej : j = n := by omega
        subst ej
        obtain ⟨g', c', cur, e, _, hb, _, hm, hs, ht⟩ := hO.row (by omega)
        simp only [Value.slice.injEq, Option.some.injEq, Addr.mk.injEq, and_true] at e
        obtain ⟨rfl, hnl, rfl⟩ := e
        clear hnl
        obtain ⟨zs, hzl, hcl⟩ := run_clear_rowK (P := Try.prog) wr 37 40 g (i * 5) (j - i) (c - i) 5 _ cur 40 Try.underlying37 zeroEntry rfl (by intro v hv; simp [Value.cells] at hv; rcases hv with rfl | rfl <;> rfl) hb (by omega) (by rw [hs]; omega)
        have R1 := hid (OwnN.cut (i := i) hBg hb hnc hm hs ht hKl (by omega) hzl)
        have R2 := hid (below_setRow hbel hBg (cur.toList.take (i * 5) ++ zs ++ cur.toList.drop (i * 5 + zs.length)).toArray)
        generalize wr.setRow g (cur.toList.take (i * 5) ++ zs ++ cur.toList.drop (i * 5 + zs.length)).toArray = W at hcl R1 R2
        have HD := hid (show M.take i = l.filter Plain.lives from by have := hK; rw [← HN.out] at this; exact this.done)
        have hci : ¬ c = i := by omega
        have hin : i ≤ j := by omega
        have hin' : (i : Int) ≤ (j : Int) := by omega
        have hic : (i : Int) ≤ (c : Int) := by omega
        clear hK hO hbel hb hs ht hzl hm
        go_wp2
        go_ret
        exact ⟨_, rfl, by rw [← HD.out]; exact R1.out, R2.out⟩

/-- DeleteFunc at whatever row of the call's own. -/
theorem delete_any (v : Value) (B : Nat) (l : List Plain.En) (hl : l.length ≤ 1000) (w : World) (hB : B ≤ w.heap.size) (h : OwnN w B 40 v l) :
    Calls Try.prog 37 #[v, .func (.func 38) #[] #[]] w fun e w' =>
      ∃ v', e = .returned v' ∧ OwnN w' B 40 v' (l.filter Plain.lives) ∧ Below B w w' := by
  by_cases h0 : 0 < l.length
  · obtain ⟨g, c, rfl, _⟩ := h.at h0
    exact delete_some g l.length c B l rfl h0 hl w hB h
  · obtain rfl : l = [] := List.length_eq_zero_iff.1 (by omega)
    obtain ⟨p, c, rfl⟩ := h.form
    have KI := index_nil p c (.func (.func 38) #[] #[]) w
    have H := hid h
    clear h
    go_enter Try.func37, Try.ntmps37
    go_wp2_with (go_at_call 43; refine KI.mono ?_; rintro e w1 ⟨rfl, rfl⟩)
    go_ret
    exact ⟨_, rfl, H.out, Below.refl _ _⟩

set_option maxHeartbeats 1000000 in
theorem live_any (v : Value) (l : List Plain.En) (hl : l.length ≤ 9223372036854775807) (w : World) (hs : SegN w v l) (hy : Lies w.heap.size v) :
    Calls Try.prog 20 #[v] w fun e w' => ∃ r, e = .returned (.tuple #[r, .int .i64 (Plain.liveE l : Nat)]) ∧ SegN w' r (Plain.liveR l) ∧ Lies w'.heap.size r ∧ Below w.heap.size w w' := by
  have K := may_any v l hl w hs hy
  unfold Plain.liveE Plain.liveR
  cases hm : Plain.mayL l with
  | false =>
    rw [hm] at K
    clear hs
    go_enter Try.func20, Try.ntmps20
    go_wp2_with (go_at_call 13; refine K.mono ?_; rintro e w1 ⟨rfl, b1⟩)
    go_ret2
    exact ⟨_, rfl, SegN.nil _, lies_nil _ _ _, b1⟩
  | true =>
    rw [hm] at K
    have h8 : l.length ≤ 8 := ((Plain.may_iff l).1 hm).1
    have K2 := fun w1 (b1 : Below w.heap.size w w1) => clone_any v l (by omega) w1 (hs.below b1 hy) (hy.mono b1.size)
    have K3 := fun v' B w1 => delete_any v' B l (by omega) w1
    clear hm hs
    go_enter Try.func20, Try.ntmps20
    go_wp2_with (go_at_call 13; refine K.mono ?_; rintro e w1 ⟨rfl, b1⟩)
    refine (K2 _ b1).mono ?_
    rintro e w2 ⟨v2, rfl, o2, b2⟩
    go_wp2_with fail
    refine (K3 v2 _ _ b2.size o2).mono ?_
    rintro e w3 ⟨v3, rfl, o3, b3⟩
    have R := hid o3.seg
    have RB := hid (b1.trans ((b2.trans b3).mono b1.size))
    clear o2 o3 b1 b2 b3
    go_wp2
    go_ret2
    exact ⟨_, rfl, R.out.1, R.out.2, RB.out⟩
end Go.Proofs.Ythdhcnjebigdfae
