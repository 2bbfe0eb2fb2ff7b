/-
  The document's FrameAsks and FrameAsked.
-/
import Derived.Test.YtkmnofmhjoehialQ7
import Derived.Test.YtkmnofmhjoehialRUnpack
import Derived.Test.YtkmnofmhjoehialAp
import Derived.Laws.AppendOwnNone
namespace Go.Proofs.Ytkmnofmhjoehial
open Go.RowKit Go.Shelf

theorem owns_growQ {w w' : World} {B e s n : Nat} {v : Value} {xs : List Value} (h : w.ownsRow B e s v n xs) (b : Below w.heap.size w w') : w'.ownsRow B e s v n xs := by
  refine ⟨h.1, ?_⟩
  rcases h.2 with h0 | ⟨g, cap, cur, e1, h1, h2, h3⟩
  · exact .inl h0
  · exact .inr ⟨g, cap, cur, e1, h1, (b.block g (Array.getElem?_eq_some_iff.1 h2).1).trans h2, h3⟩
/-- append of some values, which lie in a block of their own, onto a row of its own. -/
theorem app_vals {V : World} {t e B n g s by' k : Nat} {v z : Value} {xs ys : List Value} (ht : Try.prog.underlying t = some (.slice e)) (hinfo : (Try.prog.info? e).map (fun i => (i.zero, i.size, i.bytes)) = some (some z, s, by')) (hz : z.cells.size = s) (hs : 0 < s) (hy : by' ≤ 1000)
    (hown : V.ownsRow B e s v n xs) (hb : n + k ≤ 100000) (hB : B ≤ V.heap.size) (hk : 1 ≤ k) (hl : ys.length = k * s) (h1 : ∀ u ∈ ys, u.oneCell' = true) (hc : ∀ j u, ys[j]? = some u → V.cell? ⟨g, j, none⟩ = some u) (cp : Nat) :
    ∃ p c U, (Builtin.append_ #[t, t] t #[v, .slice (some ⟨g, 0, none⟩) k cp]).run Try.prog V = .ok (.slice p (n + k) c) U ∧ U.ownsRow B e s (.slice p (n + k) c) (n + k) (xs ++ ys) ∧ V.grownBy U v.ownBlock := by
  obtain ⟨j0, hi, hzz⟩ := Option.map_eq_some_iff.1 hinfo
  simp only [Prod.mk.injEq] at hzz
  obtain ⟨jz0, jz1, jz2⟩ := hzz
  have hbb : (n + k) * by' ≤ 140737488355328 := Nat.le_trans (Nat.mul_le_mul hb hy) (by decide)
  obtain ⟨v', U, h2, h3, h4, _⟩ := run_append_own (P := Try.prog) V B t t e j0 z s by' ht hi jz0 jz1 jz2 hz hs v n xs hown ⟨g, 0, none⟩ k cp ys
    hl (fun j u hu => by rw [add_at, Nat.zero_add]; exact hc j u hu) h1 (by unfold maxLen; omega) hbb hB
  rcases h3.2 with ⟨_, h0⟩ | ⟨g', cap, cur, rfl, _⟩
  · omega
  · exact ⟨_, _, U, h2, h3, h4⟩

theorem field_one (x y : Int) (w : World) : ∀ j u, [Value.int .i64 x, Value.int .i64 y][j]? = some u → (w.alloc (.cells #[.int .i64 x, .int .i64 y] 56)).cell? ⟨w.heap.size, j, none⟩ = some u := by
  intro j u hu
  match j, hu with
  | 0, hu => simp at hu; subst hu; rw [World.cell?_alloc_at _ _ _ _ rfl]; rfl
  | 1, hu => simp at hu; subst hu; rw [World.cell?_alloc_at _ _ _ _ rfl]; rfl

theorem fldL_take (wd : Int) (l : List Int) (k : Nat) (h : k < l.length) : fldL wd (l.take (k + 1)) = fldL wd (l.take k) ++ [(wd, l.getD k 0)] := by
  unfold fldL
  rw [List.take_succ_eq_append_getElem h, List.map_append]
  simp [h]

set_option maxHeartbeats 4000000 in
theorem rasks_c (c : Plain.Cf) (lv mv v : Value) (l : List Int) (hm : l.length ≤ 9223372036854775807) (w : World) (hI : CfI w c lv mv) (hs : Seg w v l) (hl : Lies w.heap.size v) :
    Calls Try.prog 12 #[cfV c lv mv, v] w (AsksP c l w) := by
  have B0 := hid (BcI.start hI)
  obtain ⟨p, cp, rfl⟩ := seg_len hs
  have HS := hid (fun (X : World) (b : Below w.heap.size w X) => seg_at (hs.below b hl))
  obtain ⟨lp, lc, rfl⟩ := seg_len hI.sl
  obtain ⟨mp, mc, rfl⟩ := seg_len hI.sm
  have KM := rmay_c c (.slice lp c.ls.length lc) (.slice mp c.ms.length mc) (w.alloc (boxC c (.slice lp c.ls.length lc) (.slice mp c.ms.length mc))) B0.out.ci
  clear hs hl hI
  obtain ⟨n, ls, t, ms, cap⟩ := c
  dsimp only at *
  cases hmay : Plain.mayC ⟨n, ls, t, ms, cap⟩ with
  | false =>
    rw [hmay] at KM
    have HE := hid (Plain.asks_form (l := l) hmay)
    clear hmay
    go_enter Try.func12, Try.ntmps12
    go_wp2_with fail
    refine KM.mono ?_
    rintro e w1 ⟨rfl, b1⟩
    have B1 := hid (B0.out.grow b1)
    clear B0 KM b1
    go_wp2
    go_ret2
    exact asksP_no HE.out B1.out.be
  | true =>
    rw [hmay] at KM
    have HM := hid hmay
    have h3 := hid ((Plain.may_all hmay).2.2.2.2.1)
    clear hmay
    by_cases hlen : l.length = ms.length
    · have hne : ((l.length : Int) != (ms.length : Int)) = false := by rw [hlen]; simp
      have HLE := hid hlen
      clear hlen
      have h1000 : l.length ≤ 1000 := by have := h3.out; have := HLE.out; dsimp only at *; omega
      go_enter Try.func12, Try.ntmps12
      go_wp2_with fail
      refine KM.mono ?_
      rintro e w1 ⟨rfl, b1⟩
      have B1 := hid (B0.out.grow b1)
      obtain ⟨c0, c1, c2, c3, c4⟩ := B1.out.cc
      clear B0 KM b1
      go_wp2
      clear c0 c1 c2 c3 c4
      obtain ⟨B, hB⟩ : ∃ B, B = w.heap.size := ⟨_, rfl⟩
      have HB := hid hB
      clear hB
      go_loopg [6, 8, 20] l.length (fun gg s6 _ s20 wr => ∃ k : Nat, k ≤ l.length ∧ l.length - k ≤ gg ∧ s20 = .int .i64 k ∧ Aside (wr.ownsRow B 56 2 s6 k (lvals (fldL 21 (l.take k)))) ∧ Aside ((l.take k).all Plain.cntB = true) ∧ Aside (Below w.heap.size w wr))
      case atStart => exact ⟨0, Nat.zero_le _, by omega, rfl, (show Aside _ from World.ownsRow_nil _ _ _ _), rfl, B1.out.be⟩
      case round =>
        obtain ⟨k, hk, hg, rfl, A, AC, BW⟩ := hrel
        by_cases hlt : k < l.length
        · have hltz : (k : Int) < (l.length : Int) := by omega
          obtain ⟨b, off, rfl, hc⟩ := HS.out wr BW.out (by omega)
          have c0 := hc k hlt
          clear hc
          generalize hy : l.getD k 0 = y at c0
          have HY := hid hy
          clear hy
          by_cases y0 : y < 0
          · have HE := hid (Plain.asks_over HM.out (c := ⟨n, ls, t, ms, cap⟩) HLE.out (Plain.all_noI _ l k hlt (by rw [HY.out]; exact (Plain.inR_no y 0 1048576).2 (by omega))))
            go_wp2
            go_ret2
            exact asksP_no HE.out BW.out
          · by_cases y1 : 1048576 < y
            · have HE := hid (Plain.asks_over HM.out (c := ⟨n, ls, t, ms, cap⟩) HLE.out (Plain.all_noI _ l k hlt (by rw [HY.out]; exact (Plain.inR_no y 0 1048576).2 (by omega))))
              go_wp2
              go_ret2
              exact asksP_no HE.out BW.out
            · have bA : Below wr.heap.size wr (wr.alloc (.cells #[.int .i64 21, .int .i64 y] 56)) := (Below.refl _ _).alloc (Nat.le_refl _) _
              have hBs : B ≤ wr.heap.size := by rw [HB.out]; exact BW.out.size
              obtain ⟨q, d, U, r1, r2, r3⟩ := app_vals Try.underlying54 Try.infoField rfl (by decide) (by decide) (owns_growQ A.out bA) (show k + 1 ≤ 100000 by omega) (Nat.le_trans hBs bA.size) (Nat.le_refl 1) (k := 1) (ys := [.int .i64 21, .int .i64 y]) rfl (by intro u hu; simp at hu; rcases hu with rfl | rfl <;> rfl) (field_one 21 y wr) 1
              have R1 := hid r1
              have R2 := hid (show U.ownsRow B 56 2 (.slice q (k + 1) d) (k + 1) (lvals (fldL 21 (l.take (k + 1)))) by rw [fldL_take 21 l k hlt, HY.out, lvals_snoc]; exact r2)
              have RB := hid ((BW.out.trans (bA.mono BW.out.size)).grown r3 (by have := bA.size; have := BW.out.size; omega) (fun j hj => by have := ((owns_growQ A.out bA).lt j hj).1; rw [HB.out] at this; exact this))
              have RC := hid (Plain.all_takeI _ l k hlt AC.out (by rw [HY.out]; exact (Plain.inR_iff y 0 1048576).2 (by omega)))
              clear r1 r2 r3 A AC BW bA
              go_wp2_with (first | (at_builtin; refine wpList_app _ _ 54 R1.out (by rfl) (by rfl) (by rfl) (by rfl) (by rfl) ?_) | fail)
              go_roundg (l.length - (k + 1))
              case measure => omega
              case rel => exact ⟨k + 1, by omega, by omega, by go_num, (show Aside _ from R2.out), (show Aside _ from RC.out), (show Aside _ from RB.out)⟩
        · have hltz : ¬ (k : Int) < (l.length : Int) := by omega
          have ek : k = l.length := by omega
          subst ek
          have hall := AC.out
          have hown := A.out
          rw [List.take_length] at hall hown
          have HE := hid (Plain.asks_ok HM.out (c := ⟨n, ls, t, ms, cap⟩) HLE.out hall)
          have K := rpack_any _ (fldL 21 l) (by rw [fldL_len]; omega) wr (segF_of_owns (by rw [fldL_len]; exact hown)) (lies_owns2 hown)
          clear hall hown
          go_wp2_with fail
          refine K.mono ?_
          rintro e w3 ⟨u, rfl, g1, g2, g3⟩
          have R := hid (show AsksP ⟨n, ls, t, ms, cap⟩ l w (.returned (.tuple #[u, .int .i64 (Plain.packE (fldL 21 l) : Nat)])) w3 from ⟨u, by rw [HE.out.1], by rw [HE.out.2]; exact g1, g2, BW.out.trans (g3.mono BW.out.size)⟩)
          clear g1 g2 g3
          go_wp2
          go_ret2
          exact R.out
    · have hne : ((l.length : Int) != (ms.length : Int)) = true := by rw [bne_iff_ne]; omega
      have HE := hid (Plain.asks_size HM.out (c := ⟨n, ls, t, ms, cap⟩) hlen)
      go_enter Try.func12, Try.ntmps12
      go_wp2_with fail
      refine KM.mono ?_
      rintro e w1 ⟨rfl, b1⟩
      have B1 := hid (B0.out.grow b1)
      obtain ⟨c0, c1, c2, c3, c4⟩ := B1.out.cc
      clear B0 KM b1
      go_wp2
      go_ret2
      exact asksP_no HE.out B1.out.be

theorem int_one (x : Int) (w : World) : ∀ j u, [Value.int .i64 x][j]? = some u → (w.alloc (.cells #[.int .i64 x] 3)).cell? ⟨w.heap.size, j, none⟩ = some u := by
  intro j u hu
  match j, hu with
  | 0, hu => simp at hu; subst hu; rw [World.cell?_alloc_at _ _ _ _ rfl]; rfl
/-- append of one number onto a row of its own. -/
theorem app_int {w wr : World} {B k : Nat} {v : Value} {l : List Int} (x : Int) (o : wr.ownsRow B 3 1 v k (l.map (Value.int .i64))) (hk : k ≤ 10000) (hB : B = w.heap.size) (b : Below w.heap.size w wr) :
    ∃ q d U, (Builtin.append_ #[22, 22] 22 #[v, .slice (some ⟨wr.heap.size, 0, none⟩) 1 1]).run Try.prog (wr.alloc (.cells #[.int .i64 x] 3)) = .ok (.slice q (k + 1) d) U ∧
      U.ownsRow B 3 1 (.slice q (k + 1) d) (k + 1) ((l ++ [x]).map (Value.int .i64)) ∧ Below w.heap.size w U ∧ (wr.alloc (.cells #[.int .i64 x] 3)).grownBy U v.ownBlock := by
  have bA : Below wr.heap.size wr (wr.alloc (.cells #[.int .i64 x] 3)) := (Below.refl _ _).alloc (Nat.le_refl _) _
  have hBs : B ≤ wr.heap.size := by rw [hB]; exact b.size
  obtain ⟨q, d, U, r1, r2, r3⟩ := app_vals Try.underlying22 Try.infoInt rfl (by decide) (by decide) (owns_growQ o bA) (show k + 1 ≤ 100000 by omega) (Nat.le_trans hBs bA.size) (Nat.le_refl 1) (k := 1) (ys := [.int .i64 x]) rfl (by intro u hu; simp at hu; subst hu; rfl) (int_one x wr) 1
  refine ⟨q, d, U, r1, ?_, (b.trans (bA.mono b.size)).grown r3 (by have := bA.size; have := b.size; omega) (fun j hj => by have := ((owns_growQ o bA).lt j hj).1; rw [hB] at this; exact this), r3⟩
  rw [List.map_append]
  exact r2

set_option maxHeartbeats 4000000 in
theorem rasked_c (c : Plain.Cf) (lv mv u : Value) (l : List Nat) (hr : ∀ x ∈ l, x < 256) (w : World) (hI : CfI w c lv mv) (hs : SegB w u l) (hl : Lies w.heap.size u) :
    Calls Try.prog 15 #[cfV c lv mv, u] w (AskP c l w) := by
  have B0 := hid (BcI.start hI)
  have HS := hid (fun (X : World) (b : Below w.heap.size w X) => And.intro (hs.below b hl) (hl.mono b.size))
  obtain ⟨lp, lc, rfl⟩ := seg_len hI.sl
  obtain ⟨mp, mc, rfl⟩ := seg_len hI.sm
  have KM := rmay_c c (.slice lp c.ls.length lc) (.slice mp c.ms.length mc) (w.alloc (boxC c (.slice lp c.ls.length lc) (.slice mp c.ms.length mc))) B0.out.ci
  clear hs hl hI
  obtain ⟨n, ls, t, ms, cap⟩ := c
  dsimp only at *
  cases hmay : Plain.mayC ⟨n, ls, t, ms, cap⟩ with
  | false =>
    rw [hmay] at KM
    have HE := hid (Plain.ask_form (b := l) hmay)
    clear hmay
    go_enter Try.func15, Try.ntmps15
    go_wp2_with fail
    refine KM.mono ?_
    rintro e w1 ⟨rfl, b1⟩
    have B1 := hid (B0.out.grow b1)
    clear B0 KM b1
    go_wp2
    go_ret2
    exact askP_no HE.out B1.out.be
  | true =>
    rw [hmay] at KM
    have HM := hid hmay
    have h3 := hid ((Plain.may_all hmay).2.2.2.2.1)
    clear hmay
    have h1000 : ms.length ≤ 1000 := by have := h3.out; dsimp only at *; omega
    go_enter Try.func15, Try.ntmps15
    go_wp2_with fail
    refine KM.mono ?_
    rintro e w1 ⟨rfl, b1⟩
    have B1 := hid (B0.out.grow b1)
    obtain ⟨c0, c1, c2, c3, c4⟩ := B1.out.cc
    clear B0 KM b1
    go_wp2
    clear c0 c1 c2 c3 c4
    obtain ⟨B, hB⟩ : ∃ B, B = w.heap.size := ⟨_, rfl⟩
    have HB := hid hB
    clear hB
    go_loopg [6, 17] ms.length (fun gg s6 s17 wr => ∃ k : Nat, k ≤ ms.length ∧ ms.length - k ≤ gg ∧ s17 = .int .i64 k ∧ Aside (wr.ownsRow B 3 1 s6 k ((List.replicate k 21).map (Value.int .i64))) ∧ Aside (Below w.heap.size w wr))
    case atStart => exact ⟨0, Nat.zero_le _, by omega, rfl, (show Aside _ from World.ownsRow_nil _ _ _ _), B1.out.be⟩
    case round =>
      obtain ⟨k, hk, hg, rfl, A, BW⟩ := hrel
      by_cases hlt : k < ms.length
      · have hltz : (k : Int) < (ms.length : Int) := by omega
        obtain ⟨q, d, U, r1, r2, r3, _⟩ := app_int 21 A.out (by omega) HB.out BW.out
        have R1 := hid r1
        have R2 := hid (show U.ownsRow B 3 1 (.slice q (k + 1) d) (k + 1) ((List.replicate (k + 1) 21).map (Value.int .i64)) by rw [List.replicate_succ']; exact r2)
        have RB := hid r3
        clear r1 r2 r3 A BW
        go_wp2_with (first | (at_builtin; refine wpList_app _ _ 22 R1.out (by rfl) (by rfl) (by rfl) (by rfl) (by rfl) ?_) | fail)
        go_roundg (ms.length - (k + 1))
        case measure => omega
        case rel => exact ⟨k + 1, by omega, by omega, by go_num, (show Aside _ from R2.out), (show Aside _ from RB.out)⟩
      · have hltz : ¬ (k : Int) < (ms.length : Int) := by omega
        have ek : k = ms.length := by omega
        subst ek
        have K := runpack_any _ u (List.replicate ms.length 21) l hr (by rw [List.length_replicate]; omega) wr (seg_of_owns A.out (by rw [List.length_replicate]) rfl) (lies_owns A.out) (HS.out wr BW.out).1 (HS.out wr BW.out).2
        obtain ⟨E, hE⟩ : ∃ E, E = Plain.unpackE (List.replicate ms.length 21) l := ⟨_, rfl⟩
        obtain ⟨V, hV⟩ : ∃ V, V = Plain.unpackI (List.replicate ms.length 21) l := ⟨_, rfl⟩
        have hV6 : V.length ≤ 1000000 := by rw [hV]; exact Plain.unI_le _ _
        have hV0 := hid (show ∀ x ∈ V, 0 ≤ x by rw [hV]; intro x hx; obtain ⟨y, _, rfl⟩ := List.mem_map.1 hx; omega)
        rw [← hE, ← hV] at K
        by_cases h0 : E = 0
        · have HOV := hid (fun (h : V.all Plain.cntB = false) => Plain.ask_over HM.out (c := ⟨n, ls, t, ms, cap⟩) (b := l) (by rw [← hE]; exact h0) (by rw [← hV]; exact h))
          have HOK := hid (fun (h : V.all Plain.cntB = true) => show Plain.askE ⟨n, ls, t, ms, cap⟩ l = 0 ∧ Plain.askV ⟨n, ls, t, ms, cap⟩ l = V from ⟨(Plain.ask_ok HM.out (c := ⟨n, ls, t, ms, cap⟩) (b := l) (by rw [← hE]; exact h0) (by rw [← hV]; exact h)).1, (Plain.ask_ok HM.out (c := ⟨n, ls, t, ms, cap⟩) (b := l) (by rw [← hE]; exact h0) (by rw [← hV]; exact h)).2.trans hV.symm⟩)
          clear hE hV
          subst h0
          go_wp2_with fail
          refine K.mono ?_
          rintro e w2 ⟨r, rfl, g1, g2, g3⟩
          have B2 := hid (BW.out.trans (g3.mono BW.out.size))
          obtain ⟨rp, rc, rfl⟩ := seg_len g1
          have G := hid (And.intro g1 g2)
          have SV := hid (seg_at g1)
          clear g1 g2 g3 K
          go_wp2
          go_loop [10, 33] (fun _ i => ∃ k : Nat, k ≤ V.length ∧ i = .int .i64 k ∧ (V.take k).all Plain.cntB = true) (fun _ i => V.length - (intOf i).toNat)
          case atStart => exact ⟨0, Nat.zero_le _, rfl, rfl⟩
          case round =>
            obtain ⟨k, hk, rfl, hall⟩ := hrel
            have HA := hid hall
            clear hall
            by_cases hlt : k < V.length
            · have hlt' : (k : Int) < (V.length : Int) := by omega
              obtain ⟨lb, lo, rfl, hcl⟩ := SV.out (by omega)
              have g := hcl k hlt
              obtain ⟨x, hx⟩ : ∃ x, x = V.getD k 0 := ⟨_, rfl⟩
              have hx0 := hid (hV0.out (V.getD k 0) (by rw [Plain.getD_ltI _ _ hlt]; exact List.getElem_mem hlt))
              rw [← hx] at g hx0
              have HX := hid hx
              clear hx hcl
              by_cases c2 : 1048576 < x
              · have HF := hid (HOV.out (Plain.all_noI _ V k hlt (by rw [← HX.out]; exact (Plain.inR_no x 0 1048576).2 (by omega))))
                go_wp2
                go_ret2
                exact askP_no HF.out B2.out
              · go_wp2
                go_round
                case rel => exact ⟨k + 1, by omega, by go_num, Plain.all_takeI _ V k hlt HA.out (by rw [← HX.out]; exact (Plain.inR_iff x 0 1048576).2 (by have := hx0.out; omega))⟩
                case measure => simp [intOf]; omega
            · have ek : k = V.length := by omega
              subst ek
              have HF := hid (HOK.out (by have := HA.out; rwa [List.take_length] at this))
              have R := hid (show AskP ⟨n, ls, t, ms, cap⟩ l w (.returned (.tuple #[.slice rp V.length rc, .int .i64 ((0 : Nat) : Int)])) w2 from ⟨_, by rw [HF.out.1], by rw [HF.out.2]; exact G.out.1, G.out.2, B2.out⟩)
              go_wp2
              go_ret2
              exact R.out
        · have HE := hid (Plain.ask_no HM.out (c := ⟨n, ls, t, ms, cap⟩) (b := l) (by rw [← hE]; exact h0))
          have hne : ((E : Int) != 0) = true := by rw [bne_iff_ne]; omega
          clear hE hV
          go_wp2_with fail
          refine K.mono ?_
          rintro e w2 ⟨r, rfl, g1, g2, g3⟩
          have B2 := hid (BW.out.trans (g3.mono BW.out.size))
          clear g1 g2 g3 K
          go_wp2
          go_ret2
          exact askP_no HE.out B2.out
end Go.Proofs.Ytkmnofmhjoehial
