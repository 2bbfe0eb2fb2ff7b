/-
  desk.guess: the one step that a line may be of.
-/
import Derived.Test.YtaimgddhbkcikapDoorDC
import Derived.Laws.ResultCell
import Derived.Laws.Rows
namespace Go.Proofs.YtaimgddhbkcikapDoor
open Go Go.RowKit Go.Sort Go.Shelf
open Plain
set_option maxRecDepth 100000

/-- Field i is made n. -/
def Plain.Sp.put (s : Sp) (n : Int) : Nat → Sp
  | 1 => { s with wh := n } | 2 => { s with it := n } | 3 => { s with ct := n } | 4 => { s with lf := n }
  | 5 => { s with id := n } | 6 => { s with lb := n } | 7 => { s with ky := n } | _ => s
def gsL : List UInt8 → List UInt8 → Sp → Sp
  | [], _, s => s
  | c :: r, rest, s => gsL r (cutB rest) (s.put (atoV (cutA rest)) (fieldN c))
def guessP (l : List UInt8) : Sp := gsL (lettL (kindL (cutA l))) (cutB l) ⟨kindL (cutA l), 0, 0, 0, 0, 0, 0, 0⟩
theorem put_kd (s : Sp) (n : Int) (i : Nat) : (s.put n i).kd = s.kd := by unfold Plain.Sp.put; split <;> rfl
theorem gsL_kd : ∀ (l rest : List UInt8) (s : Sp), (gsL l rest s).kd = s.kd
  | [], _, _ => rfl
  | c :: r, rest, s => by rw [gsL, gsL_kd r, put_kd]
theorem atoV_in (l : List UInt8) : In64 (atoV l) := by
  unfold atoV In64
  cases h : Lib.atoiAll l with
  | ok v =>
    have := Lib.atoiAll_bounds h
    exact ⟨by simpa using this.1, by simpa using this.2⟩
  | «syntax» => simp
  | range => unfold Lib.atoiSat; simp only; split <;> omega
theorem InSp.put {s : Sp} (h : InSp s) {n : Int} (hn : In64 n) (i : Nat) : InSp (s.put n i) := by
  have k : ∀ j, (s.put n i).at j = s.at j ∨ (s.put n i).at j = n := by
    intro j
    rcases i with _ | _ | _ | _ | _ | _ | _ | _ | i <;> rcases j with _ | _ | _ | _ | _ | _ | _ | _ | j <;> first | exact .inl rfl | exact .inr rfl
  intro j
  rcases k j with e | e <;> rw [e]
  · exact h j
  · exact hn
theorem gsL_in : ∀ (l rest : List UInt8) (s : Sp), InSp s → InSp (gsL l rest s)
  | [], _, _, h => h
  | _ :: r, rest, _, h => gsL_in r (cutB rest) _ (h.put (atoV_in _) _)
theorem zero_in {k : Int} (hk : In64 k) : InSp ⟨k, 0, 0, 0, 0, 0, 0, 0⟩ := by
  have z : In64 0 := by unfold In64; omega
  intro i
  rcases i with _ | _ | _ | _ | _ | _ | _ | _ | i
  · exact hk
  all_goals exact z
theorem guessP_in (l : List UInt8) : InSp (guessP l) := gsL_in _ _ _ (zero_in (by have := kindL_lt (cutA l); unfold In64; omega))
theorem BoxS.set {w : World} {N : Nat} {s : Sp} (h : BoxS w N s) {i : Nat} (h1 : 1 ≤ i) (hi : i < 8) (n : Int) : BoxS (w.setCell ⟨N, i, none⟩ (.int .i64 n)) N (s.put n i) := by
  unfold BoxS
  rw [set_block h]
  have : i = 1 ∨ i = 2 ∨ i = 3 ∨ i = 4 ∨ i = 5 ∨ i = 6 ∨ i = 7 := by omega
  rcases this with rfl | rfl | rfl | rfl | rfl | rfl | rfl <;> rfl

structure GsI (B : Nat) (wr : World) (N0 N M It : Nat) (nm : ByteArray) (pos : Nat) (s : Sp) : Prop where
  env : EnvR B wr
  zero : BoxS wr N0 ⟨0, 0, 0, 0, 0, 0, 0, 0⟩
  box : BoxS wr N s
  mp : MpI wr M N 0 127
  it : wr.heap[It]? = some (.stringIter nm pos)
  b0 : B ≤ N0
  n0 : N0 < N
  nm : N < M
  mi : M < It
section
variable {B : Nat} {wr w' : World} {N0 N M It : Nat} {nm : ByteArray} {pos : Nat} {s : Sp}
theorem GsI.next (h : GsI B wr N0 N M It nm pos s) (pos' : Nat) : GsI B (wr.iterAt It nm pos') N0 N M It nm pos' s := by
  have h0 := h.n0; have hn := h.nm; have hm := h.mi; have hb := h.b0
  exact ⟨h.env.on (Lib.below_iterAt (Below.refl _ _) (by omega) _ _), h.zero.keep (Lib.iterAt_other _ _ _ _ _ (by omega)), h.box.keep (Lib.iterAt_other _ _ _ _ _ (by omega)), h.mp.of_block (Lib.iterAt_other _ _ _ _ _ (by omega)), Lib.iterAt_heap _ _ _ _ _ h.it, hb, h0, hn, hm⟩
theorem GsI.grow (h : GsI B wr N0 N M It nm pos s) (hb : Below wr.heap.size wr w') : GsI B w' N0 N M It nm pos s := by
  have hlt : It < wr.heap.size := (Array.getElem?_eq_some_iff.1 h.it).1
  have h0 := h.n0; have hn := h.nm; have hm := h.mi
  exact ⟨h.env.on ⟨hb.os, hb.tape, hb.output, hb.size, fun k hk => hb.block k (Nat.lt_of_lt_of_le hk h.env.env.le)⟩, h.zero.keep (hb.block _ (by omega)), h.box.keep (hb.block _ (by omega)), h.mp.of_block (hb.block _ (by omega)), (hb.block _ hlt).trans h.it, h.b0, h0, hn, hm⟩
theorem GsI.set (h : GsI B wr N0 N M It nm pos s) {i : Nat} (h1 : 1 ≤ i) (hi : i < 8) (n : Int) : GsI B (wr.setCell ⟨N, i, none⟩ (.int .i64 n)) N0 N M It nm pos (s.put n i) := by
  have h0 := h.n0; have hn := h.nm; have hm := h.mi; have hb := h.b0
  exact ⟨h.env.on (set_below (Below.refl _ _) (by omega)), h.zero.keep (set_other _ _ _ _ _ (by omega)), h.box.set h1 hi n, h.mp.of_block (set_other _ _ _ _ _ (by omega)), (set_other _ _ _ _ _ (by omega)).trans h.it, hb, h0, hn, hm⟩
theorem GsI.look (h : GsI B wr N0 N M It nm pos s) {c : UInt8} (h1 : 1 ≤ fieldN c) (h8 : fieldN c < 8) (hk : keyA (fieldN c - 1) = (c.toNat : Int)) :
    (Instr.lookup 36 (.map (some M)) (.int .i32 (c.toNat : Int)) false).run Tryd.prog wr = .ok (.pointer (some ⟨N, fieldN c, none⟩)) wr := by
  have := h.mp.look (j := fieldN c - 1) (by omega)
  rw [hk] at this
  rw [this]
  show Result.ok (Value.pointer (some ⟨N, 0 + (1 + (fieldN c - 1)), none⟩)) wr = _
  rw [show 0 + (1 + (fieldN c - 1)) = fieldN c by omega]
end

/-- A step is laid over another one's cells. -/
def putP (W : World) (G : Nat) (s : Sp) : World :=
  (((((((W.setCell ⟨G, 0, none⟩ (.int .i64 s.kd)).setCell ⟨G, 1, none⟩ (.int .i64 s.wh)).setCell ⟨G, 2, none⟩ (.int .i64 s.it)).setCell ⟨G, 3, none⟩ (.int .i64 s.ct)).setCell ⟨G, 4, none⟩ (.int .i64 s.lf)).setCell ⟨G, 5, none⟩ (.int .i64 s.id)).setCell ⟨G, 6, none⟩ (.int .i64 s.lb)).setCell ⟨G, 7, none⟩ (.int .i64 s.ky)
theorem putP_box {W : World} {G : Nat} {t : Sp} (h : BoxS W G t) (s : Sp) : BoxS (putP W G s) G s := by
  unfold BoxS putP
  rw [set_block (set_block (set_block (set_block (set_block (set_block (set_block (set_block h 0 (.int .i64 s.kd)) 1 (.int .i64 s.wh)) 2 (.int .i64 s.it)) 3 (.int .i64 s.ct)) 4 (.int .i64 s.lf)) 5 (.int .i64 s.id)) 6 (.int .i64 s.lb)) 7 (.int .i64 s.ky)]
  simp only [stC, List.setIfInBounds_toArray, List.set_cons_zero, List.set_cons_succ]
theorem putP_below {B : Nat} {a w : World} (h : Below B a w) {G : Nat} (hG : B ≤ G) (s : Sp) : Below B a (putP w G s) := by
  unfold putP
  have h1 := set_below (i := 0) (v := .int .i64 s.kd) h hG
  have h2 := set_below (i := 1) (v := .int .i64 s.wh) h1 hG
  have h3 := set_below (i := 2) (v := .int .i64 s.it) h2 hG
  have h4 := set_below (i := 3) (v := .int .i64 s.ct) h3 hG
  have h5 := set_below (i := 4) (v := .int .i64 s.lf) h4 hG
  have h6 := set_below (i := 5) (v := .int .i64 s.id) h5 hG
  have h7 := set_below (i := 6) (v := .int .i64 s.lb) h6 hG
  exact set_below (i := 7) (v := .int .i64 s.ky) h7 hG
theorem putP_other (W : World) (G k : Nat) (s : Sp) (hk : k ≠ G) : (putP W G s).heap[k]? = W.heap[k]? := by
  unfold putP
  rw [set_other _ _ _ _ _ hk, set_other _ _ _ _ _ hk, set_other _ _ _ _ _ hk, set_other _ _ _ _ _ hk, set_other _ _ _ _ _ hk, set_other _ _ _ _ _ hk, set_other _ _ _ _ _ hk, set_other _ _ _ _ _ hk]
theorem bodyPost_P {fn : Func} {p : Tmp} {Q : Ending → World → Prop} {a : Act} {w : World} (h : fn.results = #[.cell p 23]) (G : Nat) (s : Sp) (hp : a.tmps.getD p undef = .pointer (some ⟨G, 0, none⟩))
    (hg : BoxS w G s) (hd : a.defers = []) (hR : Q (.returned (.agg (stC s))) w) : bodyPost Tryd.prog fn Q .ret a w :=
  bodyPost_ret (results_cell_row (P := Tryd.prog) h _ _ G 23 _ (0, 0) _ hp hg Tryd.underlying23 rfl (by kernel_rfl)) hd hR
theorem bodyPost_P2 {fn : Func} {p u : Tmp} {Q : Ending → World → Prop} {a : Act} {w : World} (h : fn.results = #[.cell p 23, .tmp u]) (G : Nat) (s : Sp) (hp : a.tmps.getD p undef = .pointer (some ⟨G, 0, none⟩))
    (hg : BoxS w G s) (hd : a.defers = []) (hR : Q (.returned (.tuple #[.agg (stC s), a.tmps.getD u undef])) w) : bodyPost Tryd.prog fn Q .ret a w := by
  refine bodyPost_ret (v := .tuple #[.agg (stC s), a.tmps.getD u undef]) ?_ hd hR
  rw [results_cell_tmp h, hp]
  have hl := run_loadVar_row (P := Tryd.prog) w G 23 23 (stC s) (0, 0) _ hg Tryd.underlying23 rfl (by kernel_rfl)
  simp [asAddr, hl]
set_option maxHeartbeats 8000000 in
theorem guess_c (l : List UInt8) (hl : l.length ≤ 281474976710656) (w : World) (hE : EnvR w.heap.size w) : Calls Tryd.prog 16 #[bs l] w fun e w' => e = .returned (.agg (stC (guessP l))) ∧ Below w.heap.size w w' := by
  obtain ⟨G, hG⟩ : ∃ G, G = guessP l := ⟨_, rfl⟩
  have HG := hid hG
  rw [← hG]
  clear hG
  obtain ⟨WA, hWA⟩ : ∃ WA, WA = w.alloc (.cells #[.int .i64 0, .int .i64 0, .int .i64 0, .int .i64 0, .int .i64 0, .int .i64 0, .int .i64 0, .int .i64 0] 23) := ⟨_, rfl⟩
  have BA := hid (show Below w.heap.size w WA by rw [hWA]; exact (Below.refl _ _).alloc (Nat.le_refl _) _)
  have EA := hid (hE.on BA.out)
  have XA := hid (show BoxS WA w.heap.size ⟨0, 0, 0, 0, 0, 0, 0, 0⟩ by rw [hWA]; unfold BoxS; show (w.heap.push _)[w.heap.size]? = _; simp)
  have KC := hid (cut_c l hl WA)
  rw [hWA] at KC
  obtain ⟨ca, hca⟩ : ∃ ca, ca = cutA l := ⟨_, rfl⟩
  obtain ⟨cb, hcb⟩ : ∃ cb, cb = cutB l := ⟨_, rfl⟩
  obtain ⟨cf, hcf⟩ : ∃ cf, cf = cutF l := ⟨_, rfl⟩
  rw [← hca, ← hcb, ← hcf] at KC
  have HCA := hid hca
  have HCB := hid hcb
  have hcbl : cb.length ≤ 281474976710656 := by rw [hcb]; have := (cut_len l).2; omega
  clear hE hca hcb hcf
  go_enter Tryd.func16, Tryd.ntmps16
  go_wp2_with fail
  refine KC.out.mono ?_
  rintro e w1 ⟨rfl, n1, hw1⟩
  rw [← hWA] at hw1
  have B1 := hid (show Below WA.heap.size WA w1 by rw [hw1]; exact ⟨rfl, rfl, rfl, Nat.le_refl _, fun _ _ => rfl⟩)
  have hs1 : w1.heap.size = WA.heap.size := by rw [hw1]; rfl
  have E1 := hid (EA.out.on (B1.out.mono BA.out.size))
  have X1 := hid (XA.out.keep (B1.out.block _ XA.out.lt))
  have BB1 := hid (BA.out.trans (B1.out.mono BA.out.size))
  have KK := hid (kindOf_c ca w1 E1.out.env.wd)
  obtain ⟨k, hk⟩ : ∃ k, k = kindL ca := ⟨_, rfl⟩
  have hk12 : k < 12 := by rw [hk]; exact kindL_lt _
  rw [← hk] at KK
  have HK := hid hk
  clear hk hw1 hs1 KC hWA BA EA XA B1
  go_wp2_with fail
  refine KK.out.mono ?_
  rintro e w2 ⟨rfl, b2⟩
  have E2 := hid (E1.out.on (b2.mono BB1.out.size))
  have X2 := hid (X1.out.keep (b2.block _ X1.out.lt))
  have B2 := hid (BB1.out.trans (b2.mono BB1.out.size))
  clear KK b2 E1 X1 BB1
  obtain ⟨N, hN⟩ : ∃ N, N = w2.heap.size := ⟨_, rfl⟩
  obtain ⟨WB, hWB⟩ : ∃ WB, WB = w2.alloc (.cells (stC ⟨k, 0, 0, 0, 0, 0, 0, 0⟩) 23) := ⟨_, rfl⟩
  have bb : Below N w2 WB := by rw [hWB, hN]; exact (Below.refl _ _).alloc (Nat.le_refl _) _
  have hN0 : w.heap.size < N := by rw [hN]; exact X2.out.lt
  have EB := hid (E2.out.on (bb.mono (Nat.le_of_lt hN0)))
  have XB := hid (X2.out.keep (bb.block _ hN0))
  have YB := hid (show BoxS WB N ⟨k, 0, 0, 0, 0, 0, 0, 0⟩ by rw [hWB, hN]; unfold BoxS; show (w2.heap.push _)[w2.heap.size]? = _; simp)
  have BB := hid (B2.out.trans (bb.mono (Nat.le_of_lt hN0)))
  have hsB : WB.heap.size = N + 1 := by rw [hWB, hN]; exact Array.size_push _
  have KF := hid (fields_c N 0 WB)
  rw [hsB, hWB, hN] at KF
  clear bb E2 X2 B2
  go_wp2_with fail
  refine KF.out.mono ?_
  rintro e w3 ⟨rfl, hM, b3, hs3⟩
  rw [← hN] at hM b3 hs3 ⊢
  rw [← hWB] at b3
  have E3 := hid (EB.out.on (b3.mono (by omega)))
  have X3 := hid (XB.out.keep (b3.block _ (by omega)))
  have Y3 := hid (YB.out.keep (b3.block _ (by omega)))
  have BB3 := hid (BB.out.trans (b3.mono (by omega)))
  have M3 := hid hM
  clear KF b3 hM EB XB YB BB hsB hWB hN
  have a0 := Y3.out.cell.1
  have g1 := (E3.out.env.wd k hk12).2
  obtain ⟨nm, hnm⟩ : ∃ nm : ByteArray, nm = ⟨(lettL k).toArray⟩ := ⟨_, rfl⟩
  have HNM := hid hnm
  rw [show bs (lettL k) = .string nm by rw [hnm]] at g1
  have hk0' : (0 : Int) ≤ (k : Int) := by omega
  have hk12' : (k : Int) < 12 := by omega
  have hs3' : w3.heap.size = N + 2 := hs3
  clear hnm hs3
  simp only at a0
  go_wp2_with fail
  have hnsz : nm.size = (lettL k).length := by rw [HNM.out]; simp [ByteArray.size]
  have ST := hid (show GsI w.heap.size (w3.iter nm 0) w.heap.size N (N + 1) (N + 2) nm 0 ⟨k, 0, 0, 0, 0, 0, 0, 0⟩ from ⟨E3.out.on ((Below.refl _ _).alloc (by omega) _), X3.out.keep (by have := X3.out.lt; show (w3.heap.push _)[_]? = _; rw [Array.getElem?_push_lt this]; simp [this]), Y3.out.keep (by have := Y3.out.lt; show (w3.heap.push _)[_]? = _; rw [Array.getElem?_push_lt this]; simp [this]), M3.out.of_block (by have := M3.out.lt; show (w3.heap.push _)[_]? = _; rw [Array.getElem?_push_lt this]; simp [this]), by show (w3.heap.push _)[_]? = _; rw [← hs3']; simp, Nat.le_refl _, hN0, by omega, by omega⟩)
  have B4 := hid (show Below w.heap.size w (w3.iter nm 0) from BB3.out.alloc (by omega) _)
  clear a0 g1 E3 X3 Y3 M3 BB3
  go_loopw [4] (fun v4 wr => ∃ (pos : Nat) (rest : List UInt8) (s' : Sp), v4 = bs rest ∧ Hid (GsI w.heap.size wr w.heap.size N (N + 1) (N + 2) nm pos s' ∧ gsL ((lettL k).drop pos) rest s' = G ∧ pos ≤ (lettL k).length ∧ Below w.heap.size w wr ∧ rest.length ≤ 281474976710656)) (fun _ wr => nm.size - wr.iterPos (N + 2))
  case atStart =>
    exact ⟨0, cb, _, rfl, hid ⟨ST.out, by rw [HG.out, guessP, ← HCA.out, ← HK.out, HCB.out]; rfl, Nat.zero_le _, B4.out, hcbl⟩⟩
  case round =>
    obtain ⟨pos, rest, s', rfl, HR⟩ := hrel
    have hit := HR.out.1.it
    have hmes : wr.iterPos (N + 2) = pos := by simp [World.iterPos, hit]
    have HM := hid hmes
    clear hmes
    by_cases hp : pos < (lettL k).length
    · have hps : pos < nm.size := by omega
      obtain ⟨c, hc⟩ : ∃ c, c = (lettL k)[pos] := ⟨_, rfl⟩
      have hcm : c ∈ lettL k := by rw [hc]; exact List.getElem_mem hp
      obtain ⟨f1, f8, fk, c8⟩ := lett_ok k (by omega) c hcm
      have hnc : (nm[pos]'hps) = c := by
        have := HNM.out
        subst this
        rw [hc]
        rfl
      have hnx : ∀ ty, (Instr.next (.pointer (some ⟨N + 2, 0, none⟩)) true ty).run Tryd.prog wr = _ := fun ty => Lib.run_next_ascii_at wr (N + 2) nm pos ty hit hps (by rw [hnc]; exact c8)
      rw [hnc] at hnx
      have H1 := hid (HR.out.1.next (pos + 1))
      have R1 := hid (show gsL ((lettL k).drop (pos + 1)) (cutB rest) (s'.put (atoV (cutA rest)) (fieldN c)) = G by
        have := HR.out.2.1
        rw [List.drop_eq_getElem_cons hp, ← hc, gsL] at this
        exact this)
      have hrl := HR.out.2.2.2.2
      have BW := hid (Lib.below_iterAt HR.out.2.2.2.1 (k := N + 2) (by omega) nm (pos + 1))
      obtain ⟨w1', hw1⟩ : ∃ w1', w1' = wr.iterAt (N + 2) nm (pos + 1) := ⟨_, rfl⟩
      rw [← hw1] at H1 BW
      have hnx' : ∀ ty, (Instr.next (.pointer (some ⟨N + 2, 0, none⟩)) true ty).run Tryd.prog wr = .ok (.tuple #[.bool true, .int .i64 pos, .int .i32 (c.toNat : Int)]) w1' := fun ty => by rw [hw1]; exact hnx ty
      have KC := hid (cut_c rest hrl w1')
      obtain ⟨ra, hra⟩ : ∃ ra, ra = cutA rest := ⟨_, rfl⟩
      obtain ⟨rb, hrb⟩ : ∃ rb, rb = cutB rest := ⟨_, rfl⟩
      obtain ⟨rf, hrf⟩ : ∃ rf, rf = cutF rest := ⟨_, rfl⟩
      rw [← hra, ← hrb, ← hrf] at KC
      rw [← hra, ← hrb] at R1
      have hral : ra.length ≤ 281474976710656 := by rw [hra]; have := (cut_len rest).1; omega
      have hrbl : rb.length ≤ 281474976710656 := by rw [hrb]; have := (cut_len rest).2; omega
      have FK := hid fk
      clear hnx hw1 hnc hcm hc fk hit HR hps hra hrb hrf hrl
      go_wp2_with fail
      refine KC.out.mono ?_
      rintro e w5 ⟨rfl, n5, hw5⟩
      have B5 := hid (show Below w1'.heap.size w1' w5 by rw [hw5]; exact ⟨rfl, rfl, rfl, Nat.le_refl _, fun _ _ => rfl⟩)
      clear hw5 KC
      have H5 := hid (H1.out.grow B5.out)
      have BW5 := hid (BW.out.trans (B5.out.mono BW.out.size))
      obtain ⟨f, hf⟩ : ∃ f, f = fieldN c := ⟨_, rfl⟩
      have HF := hid hf
      have L5 : (Instr.lookup 36 (.map (some (N + 1))) (.int .i32 (c.toNat : Int)) false).run Tryd.prog w5.drew = .ok (.pointer (some ⟨N, f, none⟩)) w5.drew := by rw [hf]; exact (H5.out.grow (below_drewN (Below.refl _ _) 1)).look f1 f8 FK.out
      rw [← hf] at f1 f8 R1
      have KA := hid (atoi_c ra hral w5.drew (H5.out.grow (below_drewN (Below.refl _ _) 1)).env)
      obtain ⟨av, hav⟩ : ∃ av, av = atoV ra := ⟨_, rfl⟩
      rw [← hav] at KA R1
      clear hf hav H1 BW B5
      go_wp2_with fail
      go_region_held3 (fun w' => (Instr.lookup 36 (.map (some (N + 1))) (.int .i32 (c.toNat : Int)) false).run Tryd.prog w' = .ok (.pointer (some ⟨N, f, none⟩)) w') (first | exact L5 | exact L6 | exact L7)
        ((go_at_call 22; refine KA.out.mono ?_; rintro e w6 ⟨ev, rfl, b6⟩; have B6 := hid (show Below w5.heap.size w5 w6 from (below_drewN (Below.refl _ _) 1).trans b6); clear b6; have H6 := hid (H5.out.grow B6.out)
          have L6 : (Instr.lookup 36 (.map (some (N + 1))) (.int .i32 (c.toNat : Int)) false).run Tryd.prog w6 = .ok (.pointer (some ⟨N, f, none⟩)) w6 := by rw [HF.out]; exact H6.out.look (by rw [← HF.out]; exact f1) (by rw [← HF.out]; exact f8) FK.out
          have H7 := hid (H6.out.set f1 f8 av)
          have L7 : (Instr.lookup 36 (.map (some (N + 1))) (.int .i32 (c.toNat : Int)) false).run Tryd.prog (w6.setCell ⟨N, f, none⟩ (.int .i64 av)) = .ok (.pointer (some ⟨N, f, none⟩)) (w6.setCell ⟨N, f, none⟩ (.int .i64 av)) := by rw [HF.out] at H7 ⊢; exact H7.out.look (by rw [← HF.out]; exact f1) (by rw [← HF.out]; exact f8) FK.out
          have C6 : w6.cell? ⟨N, f, none⟩ = some (.int .i64 (s'.at f)) := H6.out.box.at f8; have Z6 : w6.frozen? ⟨N, f, none⟩ = false := frozen_block H6.out.box f))
      all_goals
        clear L7 L6 C6 Z6
        go_wp2_with fail
        have hle : N + 2 < w6.heap.size := (Array.getElem?_eq_some_iff.1 H6.out.it).1
        refine ⟨⟨pos + 1, rb, s'.put av f, rfl, hid ⟨H7.out, R1.out, by omega, set_below (BW5.out.trans (B6.out.mono BW5.out.size)) (by omega), hrbl⟩⟩, ?_⟩
        have e2 : (w6.setCell ⟨N, f, none⟩ (.int .i64 av)).iterPos (N + 2) = pos + 1 := by
          unfold World.iterPos
          rw [set_other _ _ _ _ _ (by omega), H6.out.it]
        rw [e2, HM.out]
        omega
    · have hnx : ∀ ty, (Instr.next (.pointer (some ⟨N + 2, 0, none⟩)) true ty).run Tryd.prog wr = _ := fun ty => Lib.run_next_end_at wr (N + 2) nm pos ty hit (by omega)
      obtain ⟨hI, hrun, hpl, hbel, _⟩ := HR.out
      rw [List.drop_eq_nil_of_le (by omega), gsL] at hrun
      subst hrun
      obtain ⟨x0, x1, x2, x3, x4, x5, x6, x7⟩ := hI.box.cell
      obtain ⟨z0, z1, z2, z3, z4, z5, z6, z7⟩ := hI.zero.cell
      simp only at z0 z1 z2 z3 z4 z5 z6 z7
      have q0 := frozen_block hI.zero 0
      have q1 := frozen_block hI.zero 1
      have q2 := frozen_block hI.zero 2
      have q3 := frozen_block hI.zero 3
      have q4 := frozen_block hI.zero 4
      have q5 := frozen_block hI.zero 5
      have q6 := frozen_block hI.zero 6
      have q7 := frozen_block hI.zero 7
      have HB := hid hbel
      clear HR hbel hpl HG
      go_wp2_with fail
      exact bodyPost_P rfl w.heap.size s' rfl (putP_box hI.zero s') rfl ⟨rfl, putP_below HB.out (Nat.le_refl _) s'⟩
end Go.Proofs.YtaimgddhbkcikapDoor
