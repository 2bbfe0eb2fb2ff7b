/-
  frame: Asks, Asked.
-/
import Derived.Test.YtkmnofmhjoehiamQ3
import Derived.Test.YtkmnofmhjoehiamQ6
namespace Go.Proofs.Ytkmnofmhjoehiam
open Go.RowKit Go.Shelf
namespace Plain
/-- What Asks comes to. -/
def asksE (c : Cf) (l : List Int) : Nat :=
  if mayC c = true then (if l.length = c.ms.length then (if l.all cntB = true then packE (fldL 21 l) else 12) else 1) else 4
def asksB (c : Cf) (l : List Int) : List Nat :=
  if mayC c = true then (if l.length = c.ms.length then (if l.all cntB = true then packB (fldL 21 l) else []) else []) else []
theorem asks_form {c : Cf} {l : List Int} (h : mayC c = false) : asksE c l = 4 ∧ asksB c l = [] := by unfold asksE asksB; rw [h]; exact ⟨rfl, rfl⟩
theorem asks_size {c : Cf} {l : List Int} (h : mayC c = true) (h1 : l.length ≠ c.ms.length) : asksE c l = 1 ∧ asksB c l = [] := by unfold asksE asksB; rw [if_pos h, if_neg h1, if_pos h, if_neg h1]; exact ⟨rfl, rfl⟩
theorem asks_over {c : Cf} {l : List Int} (h : mayC c = true) (h1 : l.length = c.ms.length) (h2 : l.all cntB = false) : asksE c l = 12 ∧ asksB c l = [] := by
  have h3 : ¬ l.all cntB = true := by rw [h2]; decide
  unfold asksE asksB; rw [if_pos h, if_pos h1, if_neg h3, if_pos h, if_pos h1, if_neg h3]; exact ⟨rfl, rfl⟩
theorem asks_ok {c : Cf} {l : List Int} (h : mayC c = true) (h1 : l.length = c.ms.length) (h2 : l.all cntB = true) : asksE c l = packE (fldL 21 l) ∧ asksB c l = packB (fldL 21 l) := by
  unfold asksE asksB; rw [if_pos h, if_pos h1, if_pos h2, if_pos h, if_pos h1, if_pos h2]; exact ⟨rfl, rfl⟩
/-- What Asked comes to. -/
def askE (c : Cf) (b : List Nat) : Nat :=
  if mayC c = true then (if unpackE (List.replicate c.ms.length 21) b = 0 then (if (unpackI (List.replicate c.ms.length 21) b).all cntB = true then 0 else 4) else 4) else 4
def askV (c : Cf) (b : List Nat) : List Int :=
  if mayC c = true then (if unpackE (List.replicate c.ms.length 21) b = 0 then (if (unpackI (List.replicate c.ms.length 21) b).all cntB = true then unpackI (List.replicate c.ms.length 21) b else []) else []) else []
theorem ask_form {c : Cf} {b : List Nat} (h : mayC c = false) : askE c b = 4 ∧ askV c b = [] := by unfold askE askV; rw [h]; exact ⟨rfl, rfl⟩
theorem ask_no {c : Cf} {b : List Nat} (h : mayC c = true) (h1 : unpackE (List.replicate c.ms.length 21) b ≠ 0) : askE c b = 4 ∧ askV c b = [] := by unfold askE askV; rw [if_pos h, if_neg h1, if_pos h, if_neg h1]; exact ⟨rfl, rfl⟩
theorem ask_over {c : Cf} {b : List Nat} (h : mayC c = true) (h1 : unpackE (List.replicate c.ms.length 21) b = 0) (h2 : (unpackI (List.replicate c.ms.length 21) b).all cntB = false) : askE c b = 4 ∧ askV c b = [] := by
  have h3 : ¬ (unpackI (List.replicate c.ms.length 21) b).all cntB = true := by rw [h2]; decide
  unfold askE askV; rw [if_pos h, if_pos h1, if_neg h3, if_pos h, if_pos h1, if_neg h3]; exact ⟨rfl, rfl⟩
theorem ask_ok {c : Cf} {b : List Nat} (h : mayC c = true) (h1 : unpackE (List.replicate c.ms.length 21) b = 0) (h2 : (unpackI (List.replicate c.ms.length 21) b).all cntB = true) : askE c b = 0 ∧ askV c b = unpackI (List.replicate c.ms.length 21) b := by
  unfold askE askV; rw [if_pos h, if_pos h1, if_pos h2, if_pos h, if_pos h1, if_pos h2]; exact ⟨rfl, rfl⟩
theorem unI_le (ws : List Int) (bl : List Nat) : (unpackI ws bl).length ≤ 1000000 := by
  by_cases hz : szE ws = 0
  · have := (szE_zero ws hz).1
    unfold unpackI unpackV
    rw [List.length_map]
    split
    · rw [vals_len, List.length_map]; omega
    · simp
  · rw [(un_bad ws bl hz).2]; simp
end Plain
/-- What Asks leaves. -/
def AsksP (c : Plain.Cf) (l : List Int) (w : World) (e : Ending) (w' : World) : Prop :=
  ∃ u, e = .returned (.tuple #[u, .int .i64 (Plain.asksE c l : Nat)]) ∧ SegB w' u (Plain.asksB c l) ∧ Lies w'.heap.size u ∧ Below w.heap.size w w'
theorem asksP_no {c : Plain.Cf} {l : List Int} {w w' : World} {E : Nat} (h : Plain.asksE c l = E ∧ Plain.asksB c l = []) (b : Below w.heap.size w w') : AsksP c l w (.returned (.tuple #[.slice none 0 0, .int .i64 (E : Nat)])) w' :=
  ⟨_, by rw [h.1], by rw [h.2]; exact SegB.nil _, lies_nil _ _ _, b⟩
def AskP (c : Plain.Cf) (l : List Nat) (w : World) (e : Ending) (w' : World) : Prop :=
  ∃ u, e = .returned (.tuple #[u, .int .i64 (Plain.askE c l : Nat)]) ∧ Seg w' u (Plain.askV c l) ∧ Lies w'.heap.size u ∧ Below w.heap.size w w'
theorem askP_no {c : Plain.Cf} {l : List Nat} {w w' : World} {E : Nat} (h : Plain.askE c l = E ∧ Plain.askV c l = []) (b : Below w.heap.size w w') : AskP c l w (.returned (.tuple #[.slice none 0 0, .int .i64 (E : Nat)])) w' :=
  ⟨_, by rw [h.1], by rw [h.2]; exact Seg.nil _, lies_nil _ _ _, b⟩
/-- A config's box, and the config, in memory: what stays where memory grows. -/
structure BcI (w0 w : World) (T : Nat) (c : Plain.Cf) (lv mv : Value) : Prop where
  cc : CellC w T c lv mv
  ci : CfI w c lv mv
  be : Below w0.heap.size w0 w
theorem BcI.start {w : World} {c : Plain.Cf} {lv mv : Value} (h : CfI w c lv mv) : BcI w (w.alloc (boxC c lv mv)) w.heap.size c lv mv :=
  have b : Below w.heap.size w (w.alloc (boxC c lv mv)) := (Below.refl _ _).alloc (Nat.le_refl _) _
  ⟨CellC.start w c lv mv, h.grow b, b⟩
theorem BcI.grow {w0 w w' : World} {T : Nat} {c : Plain.Cf} {lv mv : Value} (h : BcI w0 w T c lv mv) (b : Below w.heap.size w w') : BcI w0 w' T c lv mv :=
  ⟨h.cc.below b h.cc.lt, h.ci.grow b, h.be.trans (b.mono h.be.size)⟩

set_option maxHeartbeats 2000000 in
theorem asks_c (c : Plain.Cf) (lv mv v : Value) (l : List Int) (hm : l.length ≤ 9223372036854775807) (w : World) (hI : CfI w c lv mv) (hs : Seg w v l) (hl : Lies w.heap.size v) :
    Calls Try.prog 11 #[cfV c lv mv, v] w (AsksP c l w) := by
  have B0 := hid (BcI.start hI)
  have HS := hid (fun (X : World) (b : Below w.heap.size w X) => And.intro (hs.below b hl) (hl.mono b.size))
  obtain ⟨p, cp, rfl⟩ := seg_len hs
  obtain ⟨lp, lc, rfl⟩ := seg_len hI.sl
  obtain ⟨mp, mc, rfl⟩ := seg_len hI.sm
  have KM := may_c c (.slice lp c.ls.length lc) (.slice mp c.ms.length mc) (w.alloc (boxC c (.slice lp c.ls.length lc) (.slice mp c.ms.length mc))) B0.out.ci
  clear hs hl hI
  obtain ⟨n, ls, t, ms, cap⟩ := c
  dsimp only at *
  cases hmay : Plain.mayC ⟨n, ls, t, ms, cap⟩ with
  | false =>
    rw [hmay] at KM
    have HE := hid (Plain.asks_form (l := l) hmay)
    clear hmay
    go_enter Try.func11, Try.ntmps11
    go_wp2_with fail
    refine KM.mono ?_
    rintro e w1 ⟨rfl, b1⟩
    have B1 := hid (B0.out.grow b1)
    clear B0 KM b1
    go_wp2
    go_ret2
    exact asksP_no HE.out B1.out.be
  | true =>
    rw [hmay] at KM
    have HM := hid hmay
    have h3 := hid ((Plain.may_all hmay).2.2.2.2.1)
    clear hmay
    by_cases hlen : l.length = ms.length
    · have K2 := hid (fun (X : World) (b : Below w.heap.size w X) => counts_c (.slice p l.length cp) l X hm (HS.out X b).1 (HS.out X b).2)
      have hne : ((l.length : Int) != (ms.length : Int)) = false := by rw [hlen]; simp
      have HLE := hid hlen
      clear hlen
      cases hc : l.all Plain.cntB with
      | false =>
        have HE := hid (Plain.asks_over HM.out (c := ⟨n, ls, t, ms, cap⟩) HLE.out hc)
        simp only [hc] at K2
        clear hc
        go_enter Try.func11, Try.ntmps11
        go_wp2_with fail
        refine KM.mono ?_
        rintro e w1 ⟨rfl, b1⟩
        have B1 := hid (B0.out.grow b1)
        obtain ⟨c0, c1, c2, c3, c4⟩ := B1.out.cc
        clear B0 KM b1
        go_wp2_with fail
        refine (K2.out w1 B1.out.be).mono ?_
        rintro e w2 ⟨rfl, b2⟩
        have B2 := hid (B1.out.grow b2)
        clear B1 b2 c0 c1 c2 c3 c4
        go_wp2
        go_ret2
        exact asksP_no HE.out B2.out.be
      | true =>
        have HE := hid (Plain.asks_ok HM.out (c := ⟨n, ls, t, ms, cap⟩) HLE.out hc)
        simp only [hc] at K2
        clear hc
        have K3 := hid (fun (X : World) (b : Below w.heap.size w X) => fpack_c 21 (.slice p l.length cp) l (by have := h3.out; have := HLE.out; dsimp only at *; omega) X (HS.out X b).1 (HS.out X b).2)
        go_enter Try.func11, Try.ntmps11
        go_wp2_with fail
        refine KM.mono ?_
        rintro e w1 ⟨rfl, b1⟩
        have B1 := hid (B0.out.grow b1)
        obtain ⟨c0, c1, c2, c3, c4⟩ := B1.out.cc
        clear B0 KM b1
        go_wp2_with fail
        refine (K2.out w1 B1.out.be).mono ?_
        rintro e w2 ⟨rfl, b2⟩
        have B2 := hid (B1.out.grow b2)
        clear B1 b2 c0 c1 c2 c3 c4
        go_wp2_with fail
        refine (K3.out w2 B2.out.be).mono ?_
        rintro e w3 ⟨u, rfl, g1, g2, g3⟩
        have R := hid (show AsksP ⟨n, ls, t, ms, cap⟩ l w (.returned (.tuple #[u, .int .i64 (Plain.packE (fldL 21 l) : Nat)])) w3 from ⟨u, by rw [HE.out.1], by rw [HE.out.2]; exact g1, g2, B2.out.be.trans (g3.mono B2.out.be.size)⟩)
        clear g1 g2 g3
        go_wp2
        go_ret2
        exact R.out
    · have hne : ((l.length : Int) != (ms.length : Int)) = true := by rw [bne_iff_ne]; omega
      have HE := hid (Plain.asks_size HM.out (c := ⟨n, ls, t, ms, cap⟩) hlen)
      go_enter Try.func11, Try.ntmps11
      go_wp2_with fail
      refine KM.mono ?_
      rintro e w1 ⟨rfl, b1⟩
      have B1 := hid (B0.out.grow b1)
      obtain ⟨c0, c1, c2, c3, c4⟩ := B1.out.cc
      clear B0 KM b1
      go_wp2
      go_ret2
      exact asksP_no HE.out B1.out.be

set_option maxHeartbeats 2000000 in
theorem asked_c (c : Plain.Cf) (lv mv u : Value) (l : List Nat) (hm : l.length ≤ 9223372036854775807) (hr : ∀ x ∈ l, x < 256) (w : World) (hI : CfI w c lv mv) (hs : SegB w u l) (hl : Lies w.heap.size u) :
    Calls Try.prog 12 #[cfV c lv mv, u] w (AskP c l w) := by
  have B0 := hid (BcI.start hI)
  have HS := hid (fun (X : World) (b : Below w.heap.size w X) => And.intro (hs.below b hl) (hl.mono b.size))
  obtain ⟨lp, lc, rfl⟩ := seg_len hI.sl
  obtain ⟨mp, mc, rfl⟩ := seg_len hI.sm
  have KM := may_c c (.slice lp c.ls.length lc) (.slice mp c.ms.length mc) (w.alloc (boxC c (.slice lp c.ls.length lc) (.slice mp c.ms.length mc))) B0.out.ci
  clear hs hl hI
  obtain ⟨n, ls, t, ms, cap⟩ := c
  dsimp only at *
  cases hmay : Plain.mayC ⟨n, ls, t, ms, cap⟩ with
  | false =>
    rw [hmay] at KM
    have HE := hid (Plain.ask_form (b := l) hmay)
    clear hmay
    go_enter Try.func12, Try.ntmps12
    go_wp2_with fail
    refine KM.mono ?_
    rintro e w1 ⟨rfl, b1⟩
    have B1 := hid (B0.out.grow b1)
    clear B0 KM b1
    go_wp2
    go_ret2
    exact askP_no HE.out B1.out.be
  | true =>
    rw [hmay] at KM
    have HM := hid hmay
    have h3 := (Plain.may_all hmay).2.2.2.2.1
    dsimp only at h3
    have K2 := hid (fun (X : World) (b : Below w.heap.size w X) => funpack_c 21 ms.length (by unfold Cnt; omega) u l hr hm X (HS.out X b).1 (HS.out X b).2)
    clear hmay h3
    obtain ⟨E, hE⟩ : ∃ E, E = Plain.unpackE (List.replicate ms.length 21) l := ⟨_, rfl⟩
    obtain ⟨V, hV⟩ : ∃ V, V = Plain.unpackI (List.replicate ms.length 21) l := ⟨_, rfl⟩
    have hV6 := hid (show V.length ≤ 1000000 by rw [hV]; exact Plain.unI_le _ _)
    simp only [← hE, ← hV] at K2
    by_cases h0 : E = 0
    · cases hc : V.all Plain.cntB with
      | false =>
        have HE := hid (Plain.ask_over HM.out (c := ⟨n, ls, t, ms, cap⟩) (b := l) (by rw [← hE]; exact h0) (by rw [← hV]; exact hc))
        clear hE hV
        subst h0
        go_enter Try.func12, Try.ntmps12
        go_wp2_with fail
        refine KM.mono ?_
        rintro e w1 ⟨rfl, b1⟩
        have B1 := hid (B0.out.grow b1)
        obtain ⟨c0, c1, c2, c3, c4⟩ := B1.out.cc
        clear B0 KM b1
        go_wp2_with fail
        refine (K2.out w1 B1.out.be).mono ?_
        rintro e w2 ⟨r, rfl, g1, g2, g3⟩
        have B2 := hid (B1.out.grow g3)
        have K3 := counts_c r V w2 (by have := hV6.out; omega) g1 g2
        rw [hc] at K3
        clear B1 c0 c1 c2 c3 c4 g1 g2 g3
        go_wp2_with fail
        refine K3.mono ?_
        rintro e w3 ⟨rfl, b3⟩
        have B3 := hid (B2.out.grow b3)
        clear b3 K3
        go_wp2
        go_ret2
        exact askP_no HE.out B3.out.be
      | true =>
        have HE := hid (Plain.ask_ok HM.out (c := ⟨n, ls, t, ms, cap⟩) (b := l) (by rw [← hE]; exact h0) (by rw [← hV]; exact hc))
        rw [← hV] at HE
        clear hE hV
        subst h0
        go_enter Try.func12, Try.ntmps12
        go_wp2_with fail
        refine KM.mono ?_
        rintro e w1 ⟨rfl, b1⟩
        have B1 := hid (B0.out.grow b1)
        obtain ⟨c0, c1, c2, c3, c4⟩ := B1.out.cc
        clear B0 KM b1
        go_wp2_with fail
        refine (K2.out w1 B1.out.be).mono ?_
        rintro e w2 ⟨r, rfl, g1, g2, g3⟩
        have B2 := hid (B1.out.grow g3)
        have K3 := counts_c r V w2 (by have := hV6.out; omega) g1 g2
        rw [hc] at K3
        have G := hid (And.intro g1 g2)
        clear B1 c0 c1 c2 c3 c4 g1 g2 g3
        go_wp2_with fail
        refine K3.mono ?_
        rintro e w3 ⟨rfl, b3⟩
        have B3 := hid (B2.out.grow b3)
        have R := hid (show AskP ⟨n, ls, t, ms, cap⟩ l w (.returned (.tuple #[r, .int .i64 ((0 : Nat) : Int)])) w3 from ⟨r, by rw [HE.out.1], by rw [HE.out.2]; exact G.out.1.below b3 G.out.2, G.out.2.mono b3.size, B3.out.be⟩)
        clear b3 K3
        go_wp2
        go_ret2
        exact R.out
    · have HE := hid (Plain.ask_no HM.out (c := ⟨n, ls, t, ms, cap⟩) (b := l) (by rw [← hE]; exact h0))
      have hne : ((E : Int) != 0) = true := by rw [bne_iff_ne]; omega
      clear hE hV
      go_enter Try.func12, Try.ntmps12
      go_wp2_with fail
      refine KM.mono ?_
      rintro e w1 ⟨rfl, b1⟩
      have B1 := hid (B0.out.grow b1)
      obtain ⟨c0, c1, c2, c3, c4⟩ := B1.out.cc
      clear B0 KM b1
      go_wp2_with fail
      refine (K2.out w1 B1.out.be).mono ?_
      rintro e w2 ⟨r, rfl, g1, g2, g3⟩
      have B2 := hid (B1.out.grow g3)
      clear B1 c0 c1 c2 c3 c4 g1 g2 g3
      go_wp2
      go_ret2
      exact askP_no HE.out B2.out.be
end Go.Proofs.Ytkmnofmhjoehiam
