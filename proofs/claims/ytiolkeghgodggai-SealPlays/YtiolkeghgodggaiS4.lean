/-
  seal: refused, isParty; bytes.Clone.
-/
import Derived.Test.YtiolkeghgodggaiS3
import Derived.Lib.SliceRun
import Derived.Test.YtiolkeghgodggaiAp
namespace Go.Proofs.Ytiolkeghgodggai.Se
open Go.RowKit Go.Shelf Go.Sort Go.Lib

def odF (r : RD) (j : Nat) : Value := if j = 0 then .int .i64 (r.d.code : Nat) else if j = 1 then .int .i64 r.d.id else if j = 2 then .int .i64 r.d.size else .slice r.p r.d.data.length r.c
theorem row4 {c : Array Value} {x0 x1 x2 x3 : Value} (hs : c.size = 4) (h0 : c[0]? = some x0) (h1 : c[1]? = some x1) (h2 : c[2]? = some x2) (h3 : c[3]? = some x3) : c = #[x0, x1, x2, x3] := by
  apply Array.ext_getElem?
  intro i
  match i with
  | 0 => simpa using h0
  | 1 => simpa using h1
  | 2 => simpa using h2
  | 3 => simpa using h3
  | i + 4 => rw [Array.getElem?_eq_none (by omega), Array.getElem?_eq_none (by simp)]
/-- What is told, returned from its box. -/
theorem bodyPost_D {fn : Func} {p : Tmp} {Q : Ending → World → Prop} {a : Act} {w : World} (h : fn.results = #[.cell p 44]) (G : Nat) (r : RD) (hp : a.tmps.getD p undef = .pointer (some ⟨G, 0, none⟩))
    (hg : w.rowIs G 44 4 (odF r)) (hd : a.defers = []) (hR : Q (.returned (aggD r)) w) : bodyPost Try.prog fn Q .ret a w := by
  obtain ⟨c, hb, hs, hc⟩ := hg
  have e := row4 hs (hc 0 (by omega)) (hc 1 (by omega)) (hc 2 (by omega)) (hc 3 (by omega))
  subst e
  exact bodyPost_ret (results_cell_row (P := Try.prog) h _ _ G 44 _ (0, 0) _ hp hb Try.underlying44 rfl (by kernel_rfl)) hd hR
/-- What is laid over the cells of one that is told. -/
def putD (W : World) (g o : Nat) (r : RD) : World :=
  (((W.setCell ⟨g, o, none⟩ (.int .i64 (r.d.code : Nat))).setCell ⟨g, o + 1, none⟩ (.int .i64 r.d.id)).setCell ⟨g, o + 2, none⟩ (.int .i64 r.d.size)).setCell ⟨g, o + 3, none⟩ (.slice r.p r.d.data.length r.c)
theorem putD_other (W : World) (g o : Nat) (r : RD) (b : Nat) (hb : b ≠ g) : (putD W g o r).heap[b]? = W.heap[b]? := by
  unfold putD
  rw [Below.heap_setCell _ ⟨g, _, none⟩ _ b hb, Below.heap_setCell _ ⟨g, _, none⟩ _ b hb, Below.heap_setCell _ ⟨g, _, none⟩ _ b hb, Below.heap_setCell _ ⟨g, _, none⟩ _ b hb]
theorem putD_size (W : World) (g o : Nat) (r : RD) : (putD W g o r).heap.size = W.heap.size := by simp [putD, World.setCell]
theorem putD_below {B : Nat} {W0 W : World} (h : Below B W0 W) {g : Nat} (hg : B ≤ g) (o : Nat) (r : RD) : Below B W0 (putD W g o r) :=
  ⟨h.os, h.tape, h.output, by rw [putD_size]; exact h.size, fun k hk => (putD_other W g o r k (by omega)).trans (h.block k hk)⟩
theorem putD_row {W : World} {G : Nat} {f : Nat → Value} (h : W.rowIs G 44 4 f) (r : RD) : (putD W G 0 r).rowIs G 44 4 (odF r) := by
  have e := (((h.set 0 (.int .i64 (r.d.code : Nat))).set 1 (.int .i64 r.d.id)).set 2 (.int .i64 r.d.size)).set 3 (.slice r.p r.d.data.length r.c)
  refine e.congr fun j hj => ?_
  have : j = 0 ∨ j = 1 ∨ j = 2 ∨ j = 3 := by omega
  rcases this with rfl | rfl | rfl | rfl <;> rfl
/-- Nothing has turned but in block G. -/
structure Only1 (G : Nat) (w w' : World) : Prop where
  os : w'.os = w.os
  tape : w'.tape = w.tape
  output : w'.output = w.output
  size : w'.heap.size = w.heap.size
  block : ∀ k, k ≠ G → w'.heap[k]? = w.heap[k]?
theorem putD_only (W : World) (g o : Nat) (r : RD) : Only1 g W (putD W g o r) := ⟨rfl, rfl, rfl, putD_size _ _ _ _, putD_other W g o r⟩
namespace Only1
variable {G : Nat} {w w' w'' : World}
theorem trans (h : Only1 G w w') (g : Only1 G w' w'') : Only1 G w w'' := ⟨g.os.trans h.os, g.tape.trans h.tape, g.output.trans h.output, g.size.trans h.size, fun k hk => (g.block k hk).trans (h.block k hk)⟩
theorem set (w : World) (i : Nat) (v : Value) : Only1 G w (w.setCell ⟨G, i, none⟩ v) := ⟨rfl, rfl, rfl, by simp, fun k hk => Below.heap_setCell w ⟨G, i, none⟩ v k hk⟩
theorem kb {B t n : Nat} {f : Nat → Value} (h : Only1 G w w') (hr : w.rowIs G t n f) (ht : t ≠ 5) (hB : B ≤ G) : Kb B w w' :=
  ⟨h.os, h.tape, h.output, by rw [h.size]; exact Nat.le_refl _, fun k _ hp => h.block k (fun e => by
    subst e
    rcases hp with x | ⟨cs, fr, x⟩
    · omega
    · obtain ⟨c', hc, _⟩ := hr
      rw [hc] at x
      simp at x
      exact ht x.2.1)⟩
theorem below {B : Nat} {w0 : World} (h : Only1 G w w') (b : Below B w0 w) (hB : B ≤ G) : Below B w0 w' :=
  ⟨h.os.trans b.os, h.tape.trans b.tape, h.output.trans b.output, by rw [h.size]; exact b.size, fun k hk => (h.block k (by omega)).trans (b.block k hk)⟩
theorem kp {ZZ : Nat → Prop} {R : Nat} {w0 : World} (h : Only1 G w w') (b : Kp ZZ R w0 w) (hG : w0.heap.size ≤ G) : Kp ZZ R w0 w' :=
  ⟨h.os.trans b.os, h.tape.trans b.tape, h.output.trans b.output, by rw [h.size]; exact b.size, fun k hk hR hz => (h.block k (by omega)).trans (b.block k hk hR hz)⟩
theorem off {R oo n : Nat} {XX : Win} {vo vm : Value} {P : List RP} {o : Plain.Off} {t m : Nat} {f : Nat → Value} (g : Only1 G w w') (h : OfI R oo XX w vo vm P o n) (hr : w.rowIs G t m f) (h1 : t ≠ 83) (h2 : t ≠ 5) (hR : G ≠ R) : OfI R oo XX w' vo vm P o n :=
  h.other (fun k _ hk => g.block k (fun e => by
    subst e
    rcases hk with x | (x | x) | ⟨cs, fr, x⟩
    · exact hR x
    · exact row_owns_ne hr h.ow h1 x
    · obtain ⟨es, ck, hm⟩ := h.mp.is_map x
      obtain ⟨c', hc, _⟩ := hr
      rw [hc] at hm
      cases hm
    · obtain ⟨c', hc, _⟩ := hr
      rw [hc] at x
      simp at x
      exact h2 x.2.1)) (by rw [g.size]; exact Nat.le_refl _)
end Only1
theorem rowD_new (w : World) (r : RD) : (w.alloc (.cells #[.int .i64 (r.d.code : Nat), .int .i64 r.d.id, .int .i64 r.d.size, .slice r.p r.d.data.length r.c] 44)).rowIs w.heap.size 44 4 (odF r) := by
  refine World.rowIs_alloc _ _ 44 _ fun i hi => ?_
  have hi4 : i < 4 := hi
  have : i = 0 ∨ i = 1 ∨ i = 2 ∨ i = 3 := by omega
  rcases this with rfl | rfl | rfl | rfl <;> rfl

set_option maxHeartbeats 400000 in
theorem refused_c (code : Nat) (w : World) : Calls Try.prog 26 #[.int .i64 (code : Nat)] w fun e w' => e = .returned (aggD ⟨⟨code, 0, 0, []⟩, none, 0⟩) ∧ Below w.heap.size w w' := by
  go_enter Try.func26, Try.ntmps26
  go_wp2
  (try simp only [Exit.inBlock, Exit.then])
  exact bodyPost_D rfl w.heap.size ⟨⟨code, 0, 0, []⟩, none, 0⟩ rfl (rowD_new w ⟨⟨code, 0, 0, []⟩, none, 0⟩) rfl ⟨rfl, (Below.refl _ _).alloc (Nat.le_refl _) _⟩

def partyB (n : Int) : Bool := decide (0 ≤ n ∧ n ≤ 8)
set_option maxHeartbeats 400000 in
theorem party_c (n : Int) (w : World) : Calls Try.prog 29 #[.int .i64 n] w fun e w' => e = .returned (.bool (partyB n)) ∧ w' = w := by
  obtain ⟨b, hb⟩ : ∃ b, b = partyB n := ⟨_, rfl⟩
  rw [← hb]
  unfold partyB at hb
  by_cases h1 : 0 ≤ n
  · by_cases h2 : n ≤ 8
    · have H := hid (show b = true by rw [hb]; exact decide_eq_true ⟨h1, h2⟩)
      clear hb
      go_enter Try.func29, Try.ntmps29
      go_wp2
      go_ret
      exact ⟨by rw [H.out]; rfl, rfl⟩
    · have H := hid (show b = false by rw [hb]; exact decide_eq_false (fun x => h2 x.2))
      clear hb
      go_enter Try.func29, Try.ntmps29
      go_wp2
      go_ret
      exact ⟨by rw [H.out]; rfl, rfl⟩
  · have H := hid (show b = false by rw [hb]; exact decide_eq_false (fun x => h1 x.1))
    clear hb
    go_enter Try.func29, Try.ntmps29
    go_wp2
    go_ret
    exact ⟨by rw [H.out]; rfl, rfl⟩

set_option maxHeartbeats 400000 in
/-- bytes.Clone: the same bytes anew. -/
theorem clone_c (B C : Nat) (p : Option Addr) (n c : Nat) (l : List Int) (hn : l.length = n) (hl : n ≤ 1000) (w : World) (h : By B w p c l) :
    Calls Try.prog 30 #[.slice p n c] w fun e w' => ∃ p' c', e = .returned (.slice p' n c') ∧ By C w' p' c' l ∧ Below w.heap.size w w' := by
  cases p with
  | none =>
    have hc := h.nl rfl
    subst hc
    have hl0 : n = 0 := by have := h.le; omega
    subst hl0
    have hl1 : l = [] := List.length_eq_zero_iff.1 hn
    subst hl1
    clear h
    have heq := run_eql_slice_nil (P := Try.prog) w 42 5 none 0 0 0 0 Try.underlying42
    go_enter Try.func30, Try.ntmps30
    go_wp2
    go_ret
    exact ⟨none, 0, rfl, By.nil _ _, Below.refl _ _⟩
  | some a =>
    subst hn
    obtain ⟨p', c', w', hrun, hb, hg⟩ := h.app1 (C := C) hl
    have HR := hid hrun
    have HB := hid hb
    have HG := hid hg
    clear h hrun hb hg
    have heq := run_eql_slice_nil (P := Try.prog) w 42 5 (some a) l.length c 0 0 Try.underlying42
    generalize l.length = n at *
    go_enter Try.func30, Try.ntmps30
    go_wp2_with (first | (at_builtin; refine wpList_app _ _ 42 HR.out (by rfl) (by rfl) (by rfl) (by rfl) (by rfl) ?_) | fail)
    go_wp2
    go_ret
    exact ⟨p', c', rfl, HB.out, HG.out⟩
end Go.Proofs.Ytiolkeghgodggai.Se
