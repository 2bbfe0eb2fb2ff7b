/-
  frame.Rumour.
-/
import Derived.Test.YtkmnofmhjoehiamQc
import Derived.Test.YtkmnofmhjoehiamKa
namespace Go.Proofs.Ytkmnofmhjoehiam
open Go.RowKit Go.Shelf
namespace Plain
/-- What Rumour comes to. -/
def rumE (c : Cf) (a b : Int) (st : List (List En)) : Nat :=
  if refE c a b = 0 then (if st.length = c.ls.length then (if st.all mayL = true then (if roomB st (comL c.ls a b c.ls.length) = true then 0 else 12) else 4) else 1) else refE c a b
def rumB (c : Cf) (a b : Int) (st : List (List En)) : List Nat :=
  if rumE c a b st = 0 then packB (fldL 34 (flatS st (comL c.ls a b c.ls.length))) else []
theorem rum_ref {c : Cf} {a b : Int} {st : List (List En)} (h : refE c a b ≠ 0) : rumE c a b st = refE c a b ∧ rumB c a b st = [] := by
  have e : rumE c a b st = refE c a b := by unfold rumE; rw [if_neg h]
  exact ⟨e, by unfold rumB; rw [e, if_neg h]⟩
theorem rum_size {c : Cf} {a b : Int} {st : List (List En)} (h : refE c a b = 0) (h1 : st.length ≠ c.ls.length) : rumE c a b st = 1 ∧ rumB c a b st = [] := by
  have e : rumE c a b st = 1 := by unfold rumE; rw [if_pos h, if_neg h1]
  exact ⟨e, by unfold rumB; rw [e]; rfl⟩
theorem rum_form {c : Cf} {a b : Int} {st : List (List En)} (h : refE c a b = 0) (h1 : st.length = c.ls.length) (h2 : st.all mayL = false) : rumE c a b st = 4 ∧ rumB c a b st = [] := by
  have e : rumE c a b st = 4 := by unfold rumE; rw [if_pos h, if_pos h1, if_neg (by rw [h2]; decide)]
  exact ⟨e, by unfold rumB; rw [e]; rfl⟩
theorem rum_over {c : Cf} {a b : Int} {st : List (List En)} (h : refE c a b = 0) (h1 : st.length = c.ls.length) (h2 : st.all mayL = true) (h3 : roomB st (comL c.ls a b c.ls.length) = false) : rumE c a b st = 12 ∧ rumB c a b st = [] := by
  have e : rumE c a b st = 12 := by unfold rumE; rw [if_pos h, if_pos h1, if_pos h2, if_neg (by rw [h3]; decide)]
  exact ⟨e, by unfold rumB; rw [e]; rfl⟩
theorem rum_ok {c : Cf} {a b : Int} {st : List (List En)} (h : refE c a b = 0) (h1 : st.length = c.ls.length) (h2 : st.all mayL = true) (h3 : roomB st (comL c.ls a b c.ls.length) = true) : rumE c a b st = 0 ∧ rumB c a b st = packB (fldL 34 (flatS st (comL c.ls a b c.ls.length))) := by
  have e : rumE c a b st = 0 := by unfold rumE; rw [if_pos h, if_pos h1, if_pos h2, if_pos h3]
  exact ⟨e, by unfold rumB; rw [e]; rfl⟩
theorem ref_may {c : Cf} {a b : Int} (h : refE c a b = 0) : mayC c = true ∧ (0 ≤ a ∧ a < c.n) ∧ (0 ≤ b ∧ b < c.n) := by
  unfold refE at h
  by_cases h1 : mayC c = true
  · rw [if_pos h1] at h
    by_cases h2 : (0 ≤ a ∧ a < c.n) ∧ (0 ≤ b ∧ b < c.n)
    · exact ⟨h1, h2⟩
    · rw [if_neg h2] at h; omega
  · rw [if_neg h1] at h; omega
theorem flat_lt {st : List (List En)} (hm : st.all mayL = true) {js : List Nat} (hj : ∀ j ∈ js, j < st.length) (hr : roomB st js = true) : ∀ v ∈ flatS st js, 0 ≤ v ∧ v < 17179869184 := by
  intro v hv
  obtain ⟨j, hjs, hv⟩ := List.mem_flatMap.1 hv
  obtain ⟨k, _, rfl⟩ := List.mem_map.1 hv
  have hlt := hj j hjs
  have hg : st.getD j [] = st[j] := by rw [List.getD_eq_getElem?_getD, List.getElem?_eq_getElem hlt]; rfl
  have h1 := List.all_eq_true.1 hm (st[j]) (List.getElem_mem hlt)
  have h2 := List.all_eq_true.1 hr j hjs
  rw [hg] at h2 ⊢
  have := slotAt_lt ((may_iff _).1 h1).2.1 (List.all_eq_true.1 h2) k
  omega
theorem room_take (st : List (List En)) (js : List Nat) (k : Nat) (hk : k < js.length) (h : roomB st (js.take k) = true) (h2 : (st.getD (js.getD k 0) []).all fitE = true) : roomB st (js.take (k + 1)) = true := all_take _ js 0 k hk h h2
theorem room_no (st : List (List En)) (js : List Nat) (k : Nat) (hk : k < js.length) (h2 : (st.getD (js.getD k 0) []).all fitE = false) : roomB st js = false := all_no _ js 0 k hk h2
theorem flat_take (st : List (List En)) (js : List Nat) (k : Nat) (hk : k < js.length) : flatS st (js.take (k + 1)) = flatS st (js.take k) ++ slotsL (st.getD (js.getD k 0) []) := by
  rw [List.take_succ_eq_append_getElem hk, flatS_snoc]
  simp [hk]
end Plain
/-- One of the lists of a store. -/
structure ElL (w : World) (u : Value) (l : List Plain.En) : Prop where
  sg : SegN w u l
  li : Lies w.heap.size u
  le : l.length ≤ 9223372036854775807
theorem ElL.grow {w w' : World} {u : Value} {l : List Plain.En} (h : ElL w u l) (b : Below w.heap.size w w') : ElL w' u l := ⟨h.sg.below b h.li, h.li.mono b.size, h.le⟩
/-- The slice v holds the lists st. -/
def SegLs (w : World) (v : Value) (st : List (List Plain.En)) : Prop :=
  st.length ≤ 9223372036854775807 ∧ ∃ p c, v = .slice p st.length c ∧ (0 < st.length → ∃ b off, p = some ⟨b, off, none⟩ ∧ b < w.heap.size ∧ ∀ j, j < st.length → ∃ u, w.cell? ⟨b, off + j, none⟩ = some u ∧ ElL w u (st.getD j []))
theorem SegLs.grow {w w' : World} {v : Value} {st : List (List Plain.En)} (h : SegLs w v st) (g : Below w.heap.size w w') : SegLs w' v st := by
  obtain ⟨hm, p, c, rfl, hp⟩ := h
  refine ⟨hm, p, c, rfl, fun h0 => ?_⟩
  obtain ⟨b, off, rfl, hb, hc⟩ := hp h0
  refine ⟨b, off, rfl, Nat.lt_of_lt_of_le hb g.size, fun j hj => ?_⟩
  obtain ⟨u, h1, h2⟩ := hc j hj
  exact ⟨u, (g.cell (p := ⟨b, off + j, none⟩) hb).trans h1, h2.grow g⟩
theorem SegLs.at {w : World} {p : Option Addr} {c n : Nat} {st : List (List Plain.En)} (h : SegLs w (.slice p n c) st) {j : Nat} (hj : j < st.length) : ∃ b off, p = some ⟨b, off, none⟩ ∧ ∃ u, w.cell? ⟨b, off + j, none⟩ = some u ∧ ElL w u (st.getD j []) := by
  obtain ⟨_, p', c', e, hp⟩ := h
  injection e with e1 e2 e3
  subst e1
  obtain ⟨b, off, rfl, _, hc⟩ := hp (by omega)
  exact ⟨b, off, rfl, hc j hj⟩
/-- What Rumour leaves. -/
def RumP (c : Plain.Cf) (a b : Int) (st : List (List Plain.En)) (w : World) (e : Ending) (w' : World) : Prop :=
  ∃ u, e = .returned (.tuple #[u, .int .i64 (Plain.rumE c a b st : Nat)]) ∧ SegB w' u (Plain.rumB c a b st) ∧ Lies w'.heap.size u ∧ Below w.heap.size w w'
theorem rumP_no {c : Plain.Cf} {a b : Int} {st : List (List Plain.En)} {w w' : World} {E : Nat} (h : Plain.rumE c a b st = E ∧ Plain.rumB c a b st = []) (g : Below w.heap.size w w') : RumP c a b st w (.returned (.tuple #[.slice none 0 0, .int .i64 (E : Nat)])) w' :=
  ⟨_, by rw [h.1], by rw [h.2]; exact SegB.nil _, lies_nil _ _ _, g⟩
/-- append of eight numbers that lie in an array. -/
theorem app_8 {w wr : World} {B k T : Nat} {v : Value} {l : List Int} {F : Nat → Int} (o : wr.ownsRow B 3 1 v k (l.map (Value.int .i64))) (hk : k ≤ 10000) (hB : B = w.heap.size) (b : Below w.heap.size w wr) (hr : ∀ j, j < 8 → wr.cell? ⟨T, j, none⟩ = some (.int .i64 (F j))) :
    ∃ q d U, (Builtin.append_ #[22, 22] 22 #[v, .slice (some ⟨T, 0, none⟩) 8 8]).run Try.prog wr = .ok (.slice q (k + 8) d) U ∧
      U.ownsRow B 3 1 (.slice q (k + 8) d) (k + 8) ((l ++ (List.range 8).map F).map (Value.int .i64)) ∧ Below w.heap.size w U := by
  have hBs : B ≤ wr.heap.size := by rw [hB]; exact b.size
  obtain ⟨q, d, U, r1, r2, r3⟩ := app_vals Try.underlying22 Try.infoInt rfl (by decide) (by decide) o (show k + 8 ≤ 100000 by omega) hBs (by decide) (k := 8) (g := T) (ys := ((List.range 8).map F).map (Value.int .i64)) (by simp) (by intro u hu; obtain ⟨x, _, rfl⟩ := List.mem_map.1 hu; rfl) (fun j u hu => by
    have hj : j < 8 := by
      rcases Nat.lt_or_ge j 8 with h | h
      · exact h
      · rw [List.getElem?_eq_none (by simpa using h)] at hu; cases hu
    rw [hr j hj]
    rw [List.getElem?_map, List.getElem?_map, List.getElem?_range hj] at hu
    exact hu) 8
  refine ⟨q, d, U, r1, ?_, b.grown r3 b.size (fun j hj => by have := (o.lt j hj).1; rw [hB] at this; exact this)⟩
  rw [List.map_append]
  exact r2
theorem ar8_cells (w : World) (F : Nat → Int) : ∀ j, j < 8 → (w.alloc (.cells (Plain.ar8 F) 51)).cell? ⟨w.heap.size, j, none⟩ = some (.int .i64 (F j)) := by
  intro j hj
  rw [World.cell?_alloc_at _ _ _ _ rfl]
  have : j = 0 ∨ j = 1 ∨ j = 2 ∨ j = 3 ∨ j = 4 ∨ j = 5 ∨ j = 6 ∨ j = 7 := by omega
  rcases this with rfl | rfl | rfl | rfl | rfl | rfl | rfl | rfl <;> rfl

set_option maxHeartbeats 8000000 in
theorem rumour_c (c : Plain.Cf) (lv mv v : Value) (x y : Int) (st : List (List Plain.En)) (w : World) (hI : CfI w c lv mv) (hs : SegLs w v st) :
    Calls Try.prog 8 #[cfV c lv mv, .int .i64 x, .int .i64 y, v] w (RumP c x y st w) := by
  have B0 := hid (BcI.start hI)
  have HS := hid (fun (X : World) (b : Below w.heap.size w X) => hs.grow b)
  have hsm := hs.1
  obtain ⟨_, p, cp, rfl, _⟩ := hs
  obtain ⟨lp, lc, rfl⟩ := seg_len hI.sl
  obtain ⟨mp, mc, rfl⟩ := seg_len hI.sm
  have KM := refuse_c c (.slice lp c.ls.length lc) (.slice mp c.ms.length mc) x y (w.alloc (boxC c (.slice lp c.ls.length lc) (.slice mp c.ms.length mc))) B0.out.ci
  obtain ⟨E, hE⟩ : ∃ E, E = Plain.refE c x y := ⟨_, rfl⟩
  rw [← hE] at KM
  clear hI
  by_cases h0 : E = 0
  · subst h0
    have hmay := (Plain.ref_may hE.symm).1
    have h4 := (Plain.may_all hmay).2.1
    have KC := hid (fun (X : World) (b : Nat) (I : CfI X c (.slice lp c.ls.length lc) (.slice mp c.ms.length mc)) (h1 : X.cell? ⟨b, 0, none⟩ = some (.int .i64 x)) (h2 : X.cell? ⟨b, 1, none⟩ = some (.int .i64 y)) => common_c c _ _ b x y hmay X I h1 h2)
    by_cases hlen : st.length = c.ls.length
    · have H1 := hid (fun h => Plain.rum_form (st := st) hE.symm hlen h)
      have H2 := hid (fun h2 h => Plain.rum_over (st := st) hE.symm hlen h2 h)
      have H3 := hid (fun h2 h => Plain.rum_ok (st := st) hE.symm hlen h2 h)
      have hne : ((st.length : Int) != (c.ls.length : Int)) = false := by rw [hlen]; simp
      have HLE := hid hlen
      have hst4 : st.length ≤ 4 := by omega
      have hJ := hid (fun j (h : j ∈ Plain.comL c.ls x y c.ls.length) => show j < st.length by rw [hlen]; exact Plain.com_lt h)
      have hJ4 := Plain.com_len c.ls x y c.ls.length
      clear hlen hE hmay
      obtain ⟨js, hjs⟩ : ∃ js, js = Plain.comL c.ls x y c.ls.length := ⟨_, rfl⟩
      rw [← hjs] at hJ H2 H3 hJ4
      simp only [← hjs] at KC
      have hj4 : js.length ≤ 4 := by omega
      clear hjs hJ4
      obtain ⟨n, ls, t, ms, cap⟩ := c
      dsimp only at *
      go_enter Try.func8, Try.ntmps8
      go_wp2_with fail
      refine KM.mono ?_
      rintro e w1 ⟨rfl, b1⟩
      have B1 := hid (B0.out.grow b1)
      obtain ⟨c0, c1, c2, c3, c4⟩ := B1.out.cc
      clear B0 KM b1
      go_wp2
      clear c0 c1 c2 c3 c4
      go_loopg [12, 33] st.length (fun gg _ s33 wr => ∃ k : Nat, k ≤ st.length ∧ st.length - k ≤ gg ∧ s33 = .int .i64 k ∧ Aside ((st.take k).all Plain.mayL = true) ∧ Aside (BcI w wr w.heap.size ⟨n, ls, t, ms, cap⟩ (.slice lp ls.length lc) (.slice mp ms.length mc)))
      case atStart => exact ⟨0, Nat.zero_le _, by omega, rfl, rfl, B1.out⟩
      case round =>
        obtain ⟨k, hk, hg, rfl, A, BW⟩ := hrel
        by_cases hlt : k < st.length
        · have hltz : (k : Int) < (st.length : Int) := by omega
          obtain ⟨b, off, rfl, u, hu, el⟩ := (HS.out wr BW.out.be).at hlt
          have KY := may_any u (st.getD k []) el.le wr el.sg el.li
          clear el
          cases hq : Plain.mayL (st.getD k []) with
          | false =>
            rw [hq] at KY
            have HN := hid (H1.out (Plain.all_no _ st [] k hlt hq))
            go_wp2_with fail
            refine KY.mono ?_
            rintro e w2 ⟨rfl, b2⟩
            have B2 := hid (BW.out.grow b2)
            clear KY b2 hu
            go_wp2
            go_ret2
            exact rumP_no HN.out B2.out.be
          | true =>
            rw [hq] at KY
            have HN := hid (Plain.all_take _ st [] k hlt A.out hq)
            go_wp2_with fail
            refine KY.mono ?_
            rintro e w2 ⟨rfl, b2⟩
            have B2 := hid (BW.out.grow b2)
            clear KY b2 hu
            go_wp2
            go_roundg (st.length - (k + 1))
            case measure => omega
            case rel => exact ⟨k + 1, by omega, by omega, by go_num, (show Aside _ from HN.out), (show Aside _ from B2.out)⟩
        · have hltz : ¬ (k : Int) < (st.length : Int) := by omega
          have ek : k = st.length := by omega
          subst ek
          have hall := A.out
          rw [List.take_length] at hall
          have HA := hid hall
          clear A hall
          obtain ⟨c0, c1, c2, c3, c4⟩ := BW.out.cc
          have bA : Below wr.heap.size wr (wr.alloc (.cells #[.int .i64 x, .int .i64 y] 3)) := (Below.refl _ _).alloc (Nat.le_refl _) _
          have B3 := hid (BW.out.grow bA)
          have K := KC.out _ _ B3.out.ci (two_cells wr x y).1 (two_cells wr x y).2
          clear bA
          go_wp2_with fail
          refine K.mono ?_
          rintro e w4 ⟨jv, rfl, g1, g2, g3⟩
          have B4 := hid (B3.out.grow g3).be
          obtain ⟨jp, jc, rfl⟩ := seg_len g1
          have HJ := hid (fun (X : World) (b : Below w4.heap.size w4 X) => seg_at (g1.below b g2))
          have hjl : (Plain.natsI js).length = js.length := Plain.natsI_len js
          have hjL := hid hjl
          rw [hjl]
          clear K B3 g1 g2 g3 c0 c1 c2 c3 c4 KC BW hjl
          go_wp2
          obtain ⟨B, hB⟩ : ∃ B, B = w4.heap.size := ⟨_, rfl⟩
          have HB := hid hB
          clear hB
          go_loopg [13, 15, 16, 17, 47] js.length (fun gg s13 _ _ _ s47 wr => ∃ k : Nat, k ≤ js.length ∧ js.length - k ≤ gg ∧ s47 = .int .i64 k ∧ Aside (Plain.roomB st (js.take k) = true) ∧ Aside (wr.ownsRow B 3 1 s13 (k * 8) ((Plain.flatS st (js.take k)).map (Value.int .i64))) ∧ Aside (Below w4.heap.size w4 wr))
          case atStart => exact ⟨0, Nat.zero_le _, by omega, rfl, rfl, (show Aside _ from World.ownsRow_nil _ _ _ _), (show Aside _ from Below.refl _ _)⟩
          case round =>
            obtain ⟨k, hk, hg, rfl, AR, A, BW⟩ := hrel
            by_cases hlt : k < js.length
            · have hltz : (k : Int) < (js.length : Int) := by omega
              obtain ⟨jb, jo, rfl, hc⟩ := HJ.out wr BW.out (by rw [hjL.out]; omega)
              have c0 := hc k (by rw [hjL.out]; exact hlt)
              rw [Plain.natsI_at js k hlt] at c0
              have hi := hJ.out (js.getD k 0) (by rw [List.getD_eq_getElem?_getD, List.getElem?_eq_getElem hlt]; exact List.getElem_mem hlt)
              obtain ⟨i, hii⟩ : ∃ i, i = js.getD k 0 := ⟨_, rfl⟩
              rw [← hii] at c0 hi
              have hiz : (i : Int) < (st.length : Int) := by omega
              have BWW := hid (B4.out.trans (BW.out.mono B4.out.size))
              obtain ⟨b, off, rfl, u, hu, el⟩ := (HS.out wr BWW.out).at hi
              have hmi : Plain.mayL (st.getD i []) = true := by rw [List.getD_eq_getElem?_getD, List.getElem?_eq_getElem hi]; exact List.all_eq_true.1 HA.out _ (List.getElem_mem hi)
              have KS := slotsOf_c u (st.getD i []) hmi wr el.sg el.li
              have HII := hid hii
              clear hc el hmi hii
              cases hq : (st.getD i []).all Plain.fitE with
              | false =>
                have HN := hid (H2.out HA.out (Plain.room_no st js k hlt (by rw [← HII.out]; exact hq)))
                go_wp2_with fail
                refine KS.mono ?_
                rintro e w5 ⟨F, rfl, hF, b5⟩
                rw [if_neg (by rw [hq]; decide)]
                have B5 := hid (BWW.out.trans (b5.mono BWW.out.size))
                have B6 := hid (show Below w.heap.size w (w5.alloc (.cells (Plain.ar8 F) 51)) from B5.out.alloc B5.out.size _)
                clear KS hF b5 c0 hu
                go_wp2
                go_ret2
                exact rumP_no HN.out B6.out
              | true =>
                have HN := hid (Plain.room_take st js k hlt AR.out (by rw [← HII.out]; exact hq))
                go_wp2_with fail
                refine KS.mono ?_
                rintro e w5 ⟨F, rfl, hF, b5⟩
                rw [if_pos hq]
                have HF := hid (hF hq)
                have bb : Below w5.heap.size w5 (w5.alloc (.cells (Plain.ar8 F) 51)) := (Below.refl _ _).alloc (Nat.le_refl _) _
                have A6 := owns_growQ (owns_growQ A.out b5) bb
                have B5 : Below w4.heap.size w4 w5 := BW.out.trans (b5.mono BW.out.size)
                have B6 : Below w4.heap.size w4 (w5.alloc (.cells (Plain.ar8 F) 51)) := B5.trans (bb.mono B5.size)
                obtain ⟨q, d, U, r1, r2, r3⟩ := app_8 A6 (show k * 8 ≤ 10000 by omega) HB.out B6 (ar8_cells w5 F)
                have R1 := hid r1
                have R2 := hid (show U.ownsRow B 3 1 (.slice q (k * 8 + 8) d) ((k + 1) * 8) ((Plain.flatS st (js.take (k + 1))).map (Value.int .i64)) by
                  rw [Plain.flat_take st js k hlt, ← HII.out, show (k + 1) * 8 = k * 8 + 8 by omega]
                  have e : Plain.slotsL (st.getD i []) = (List.range 8).map F := by
                    unfold Plain.slotsL
                    exact List.map_congr_left fun j hj => (HF.out j (List.mem_range.1 hj)).symm
                  rw [e]
                  exact r2)
                have R3 := hid r3
                clear KS hF b5 c0 hu bb A6 B5 B6 r1 r2 r3 A BW BWW
                go_wp2_with (first | (at_builtin; refine wpList_app _ _ 22 R1.out (by rfl) (by rfl) (by rfl) (by rfl) (by rfl) ?_) | fail)
                go_roundg (js.length - (k + 1))
                case measure => omega
                case rel => exact ⟨k + 1, by omega, by omega, by go_num, (show Aside _ from HN.out), (show Aside _ from R2.out), (show Aside _ from R3.out)⟩
            · have hltz : ¬ (k : Int) < (js.length : Int) := by omega
              have ek : k = js.length := by omega
              subst ek
              have ha := A.out
              have hr := AR.out
              rw [List.take_length] at ha hr
              have h32 : (Plain.flatS st js).length = js.length * 8 := Plain.flatS_len st js
              have HE := hid (H3.out HA.out hr)
              have HP := hid (Plain.pack34 (vs := Plain.flatS st js) (by omega) (Plain.flat_lt HA.out hJ.out hr)).1
              have K := fpack_c 34 _ (Plain.flatS st js) (by omega) wr (seg_of_owns ha h32.symm rfl) (lies_owns ha)
              rw [HP.out] at K
              have BWW := hid (B4.out.trans (BW.out.mono B4.out.size))
              clear ha hr h32 A AR BW
              go_wp2_with fail
              refine K.mono ?_
              rintro e w7 ⟨u, rfl, g1, g2, g3⟩
              have R := hid (show RumP ⟨n, ls, t, ms, cap⟩ x y st w (.returned (.tuple #[u, .int .i64 ((0 : Nat) : Int)])) w7 from ⟨u, by rw [HE.out.1], by rw [HE.out.2]; exact g1, g2, BWW.out.trans (g3.mono BWW.out.size)⟩)
              clear g1 g2 g3 K
              go_wp2
              go_ret2
              exact R.out
    · have hne : ((st.length : Int) != (c.ls.length : Int)) = true := by rw [bne_iff_ne]; omega
      have HN := hid (Plain.rum_size (st := st) hE.symm hlen)
      clear hE KC hmay
      obtain ⟨n, ls, t, ms, cap⟩ := c
      dsimp only at *
      go_enter Try.func8, Try.ntmps8
      go_wp2_with fail
      refine KM.mono ?_
      rintro e w1 ⟨rfl, b1⟩
      have B1 := hid (B0.out.grow b1)
      obtain ⟨c0, c1, c2, c3, c4⟩ := B1.out.cc
      clear B0 KM b1
      go_wp2
      go_ret2
      exact rumP_no HN.out B1.out.be
  · have HN := hid (Plain.rum_ref (st := st) (by rw [← hE]; exact h0))
    have hne : ((E : Int) != 0) = true := by rw [bne_iff_ne]; omega
    rw [← hE] at HN
    clear hE
    obtain ⟨n, ls, t, ms, cap⟩ := c
    dsimp only at *
    go_enter Try.func8, Try.ntmps8
    go_wp2_with fail
    refine KM.mono ?_
    rintro e w1 ⟨rfl, b1⟩
    have B1 := hid (B0.out.grow b1)
    clear B0 KM b1
    go_wp2
    go_ret2
    exact rumP_no HN.out B1.out.be
end Go.Proofs.Ytkmnofmhjoehiam
