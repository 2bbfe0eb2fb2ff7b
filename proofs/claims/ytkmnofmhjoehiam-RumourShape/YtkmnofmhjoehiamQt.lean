/-
  keep: LabelsOf; ConfigOf with ones.
-/
import Derived.Test.YtkmnofmhjoehiamQ7
import Derived.Test.YtkmnofmhjoehiamPk
import Derived.Deep.LoopGhost
import Derived.Deep.Cut
import Derived.Laws.Rows
import Derived.Laws.ResultCell
namespace Go.Proofs.Ytkmnofmhjoehiam
open Go.RowKit Go.Shelf
namespace Plain
def labAt (L : List Int) (j : Nat) : Int := L.getD j 0
def labsF (l : List Int) : List Int := (List.range 3).map fun i => if i < l.length then (l.getD i 0) % 16 else [15, 6, 9].getD i 0
theorem labsF_len (l : List Int) : (labsF l).length = 3 := by simp [labsF]
theorem labsF_at (l : List Int) {i : Nat} (h : i < 3) : (labsF l).getD i 0 = if i < l.length then (l.getD i 0) % 16 else [15, 6, 9].getD i 0 := by
  simp [labsF, List.getD_eq_getElem?_getD, h]
theorem labsF_in (l : List Int) : ∀ x, x ∈ labsF l → 0 ≤ x ∧ x < 16 := by
  intro x hx
  obtain ⟨i, hi, rfl⟩ := List.mem_map.1 hx
  have hi3 := List.mem_range.1 hi
  split
  · omega
  · have : i = 0 ∨ i = 1 ∨ i = 2 := by omega
    rcases this with rfl | rfl | rfl <;> decide
/-- The first k of them taken. -/
def labK (l : List Int) (k : Nat) (i : Nat) : Int := if i < k ∧ i < l.length then (l.getD i 0) % 16 else [15, 6, 9].getD i 0
end Plain
/-- Numbers in a slice. -/
def NumsQ (w : World) (p : Option Addr) (l : List Int) : Prop :=
  0 < l.length → ∃ b off, p = some ⟨b, off, none⟩ ∧ b < w.heap.size ∧ ∀ j, j < l.length → w.cell? ⟨b, off + j, none⟩ = some (.int .i64 (l.getD j 0))
theorem getD_memQ (l : List Int) {k : Nat} (h : k < l.length) : l.getD k 0 ∈ l := by
  rw [List.getD_eq_getElem?_getD, List.getElem?_eq_getElem h]; exact List.getElem_mem _
/-- Numbers in a row of their own, whatever its values. -/
def rowV (f : Nat → Int) (j : Nat) : Value := .int .i64 (f j)

set_option maxHeartbeats 2000000 in
set_option maxRecDepth 100000 in
theorem labels_c (p : Option Addr) (n cap : Nat) (l : List Int) (_hbig : n ≤ 9223372036854775807) (hn : l.length = n) (hwf : ∀ x, x ∈ l → -9223372036854775808 ≤ x ∧ x ≤ 9223372036854775807) (w : World) (hp : NumsQ w p l) :
    Calls Try.prog 14 #[.slice p n cap] w fun e w' => e = .returned (.slice (some ⟨w.heap.size, 0, none⟩) 3 3) ∧ w'.rowIs w.heap.size 3 3 (rowV (Plain.labAt (Plain.labsF l))) ∧ Below w.heap.size w w' := by
  have HP := hid hp
  have HN := hid hn
  have HW := hid hwf
  have R0 := hid (show (w.alloc (.cells #[.int .i64 15, .int .i64 6, .int .i64 9] 3)).rowIs w.heap.size 3 3 (rowV (Plain.labK l 0)) by
    refine World.rowIs_alloc _ _ 3 _ fun i hi => ?_
    have hi4 : i < 3 := hi
    have : i = 0 ∨ i = 1 ∨ i = 2 := by omega
    rcases this with rfl | rfl | rfl <;> simp [rowV, Plain.labK])
  have B0 := hid (show Below w.heap.size w (w.alloc (.cells #[.int .i64 15, .int .i64 6, .int .i64 9] 3)) from (Below.refl _ _).alloc (Nat.le_refl _) _)
  have HF := hid (fun (wx : World) (k : Nat) (hk : 3 ≤ k ∨ n ≤ k) (h : wx.rowIs w.heap.size 3 3 (rowV (Plain.labK l k))) => show wx.rowIs w.heap.size 3 3 (rowV (Plain.labAt (Plain.labsF l))) from h.congr fun j hj => by
    unfold rowV Plain.labK Plain.labAt
    rw [Plain.labsF_at l hj]
    by_cases hjl : j < l.length
    · rw [if_pos ⟨by omega, hjl⟩, if_pos hjl]
    · rw [if_neg (fun x => hjl x.2), if_neg hjl])
  clear hp hn hwf
  go_enter Try.func14, Try.ntmps14
  go_wp2
  obtain ⟨W1, hW1⟩ : ∃ W1, W1 = w.alloc (.cells #[.int .i64 15, .int .i64 6, .int .i64 9] 3) := ⟨_, rfl⟩
  rw [← hW1] at R0 B0 ⊢
  clear hW1
  obtain ⟨B, hB⟩ : ∃ B, B = w.heap.size := ⟨_, rfl⟩
  rw [← hB] at R0 B0 HF ⊢
  have HBB := hid hB
  clear hB
  go_loopg [4] 3 (fun gg s4 wx => ∃ k : Nat, k ≤ 3 ∧ k ≤ n ∧ 3 - k ≤ gg ∧ s4 = .int .i64 k ∧ Aside (wx.rowIs B 3 3 (rowV (Plain.labK l k))) ∧ Aside (Below B w wx))
  case atStart => exact ⟨0, Nat.zero_le _, Nat.zero_le _, by omega, rfl, (show Aside _ from R0.out), (show Aside _ from B0.out)⟩
  case round =>
    obtain ⟨k, hk, hkn, hg, rfl, RK, BK⟩ := hrel
    clear R0 B0
    by_cases hlt : k < 3
    · have hltz : (k : Int) < 3 := by omega
      by_cases hltn : k < n
      · have hltnz : (k : Int) < (n : Int) := by omega
        have hkl : k < l.length := by rw [HN.out]; exact hltn
        obtain ⟨b, off, rfl, hb, hc⟩ := HP.out (by omega)
        rw [← HBB.out] at hb
        have c0 := (BK.out.cell (p := ⟨b, off + k, none⟩) hb).trans (hc k hkl)
        have hin := HW.out _ (getD_memQ l hkl)
        have y0 := RK.out.cell hlt
        have z0 := RK.out.frozen k
        unfold rowV at y0
        have R2 := hid (RK.out.set k (.int .i64 (l.getD k 0 % 16)))
        have HK := hid (show ∀ j, j < 3 → (if j = k then Value.int .i64 (l.getD k 0 % 16) else rowV (Plain.labK l k) j) = rowV (Plain.labK l (k + 1)) j from fun j hj => by
          by_cases e : j = k
          · subst e
            rw [if_pos rfl]
            unfold rowV Plain.labK
            rw [if_pos ⟨by omega, hkl⟩]
          · rw [if_neg e]
            unfold rowV Plain.labK
            by_cases h1 : j < k ∧ j < l.length
            · rw [if_pos h1, if_pos ⟨by omega, h1.2⟩]
            · rw [if_neg h1, if_neg (fun x => h1 ⟨by omega, x.2⟩)])
        generalize l.getD k 0 = x at c0 hin R2 HK
        have K0 := fun W => picked_any x 16 hin.1 hin.2 (by omega) (by omega) W
        clear hin hc
        generalize x % 16 = xm at *
        have hne : ¬ b = B := by omega
        go_wp2_with fail
        refine (K0 _).mono ?_
        rintro e wx ⟨rfl, hx⟩
        have hy := hx.symm
        clear hx K0
        subst hy
        go_wp2
        go_roundg (3 - (k + 1))
        case measure => omega
        case rel => exact ⟨k + 1, by omega, by omega, by omega, by go_num, (show Aside _ from R2.out.congr HK.out), (show Aside _ from BK.out.setCell (p := ⟨B, k, none⟩) (Nat.le_refl B) _)⟩
      · have hltnz : ¬ (k : Int) < (n : Int) := by omega
        have F := hid (HF.out wr k (.inr (by omega)) RK.out)
        have FB := hid BK.out
        clear RK BK
        go_wp2
        go_ret
        exact ⟨by rw [← HBB.out]; rfl, by rw [← HBB.out]; exact F.out, by rw [← HBB.out]; exact FB.out⟩
    · have hltz : ¬ (k : Int) < 3 := by omega
      have F := hid (HF.out wr k (.inl (by omega)) RK.out)
      have FB := hid BK.out
      clear RK BK
      go_wp2
      go_ret
      exact ⟨by rw [← HBB.out]; rfl, by rw [← HBB.out]; exact F.out, by rw [← HBB.out]; exact FB.out⟩

/-- A config, laid over a box. -/
def putC (W : World) (G : Nat) (a : Int) (x : Value) (b : Int) (y : Value) (c : Int) : World :=
  ((((W.setCell ⟨G, 0, none⟩ (.int .i64 a)).setCell ⟨G, 1, none⟩ x).setCell ⟨G, 2, none⟩ (.int .i64 b)).setCell ⟨G, 3, none⟩ y).setCell ⟨G, 4, none⟩ (.int .i64 c)
theorem putC_at {W : World} {G : Nat} {c0 c1 c2 c3 c4 : Value} (h : W.heap[G]? = some (.cells #[c0, c1, c2, c3, c4] 25 (0, 0))) (a : Int) (x : Value) (b : Int) (y : Value) (c : Int) :
    (putC W G a x b y c).heap[G]? = some (.cells #[.int .i64 a, x, .int .i64 b, y, .int .i64 c] 25 (0, 0)) := by
  have h1 := heap_setCell_same W G 0 _ 25 (.int .i64 a) h
  have h2 := heap_setCell_same _ G 1 _ 25 x h1
  have h3 := heap_setCell_same _ G 2 _ 25 (.int .i64 b) h2
  have h4 := heap_setCell_same _ G 3 _ 25 y h3
  exact heap_setCell_same _ G 4 _ 25 (.int .i64 c) h4
theorem putC_far (W : World) (G : Nat) (a : Int) (x : Value) (b : Int) (y : Value) (c : Int) {k : Nat} (hk : k ≠ G) : (putC W G a x b y c).heap[k]? = W.heap[k]? := by
  unfold putC
  rw [RowKit.Below.heap_setCell _ _ _ _ hk, RowKit.Below.heap_setCell _ _ _ _ hk, RowKit.Below.heap_setCell _ _ _ _ hk, RowKit.Below.heap_setCell _ _ _ _ hk, RowKit.Below.heap_setCell _ _ _ _ hk]
theorem putC_below {w W : World} {G : Nat} (h : Below w.heap.size w W) (hG : w.heap.size ≤ G) (a : Int) (x : Value) (b : Int) (y : Value) (c : Int) : Below w.heap.size w (putC W G a x b y c) :=
  ((((h.setCell (p := ⟨G, 0, none⟩) hG _).setCell (p := ⟨G, 1, none⟩) hG _).setCell (p := ⟨G, 2, none⟩) hG _).setCell (p := ⟨G, 3, none⟩) hG _).setCell (p := ⟨G, 4, none⟩) hG _
theorem putC_size (W : World) (G : Nat) (a : Int) (x : Value) (b : Int) (y : Value) (c : Int) : (putC W G a x b y c).heap.size = W.heap.size := by simp [putC, World.setCell]
/-- The config that the laws ask with. -/
def Plain.cf4 (l : List Int) : Plain.Cf := ⟨4, Plain.labsF l, 2, [1, 0], 1⟩
theorem Plain.cf4_may (l : List Int) : Plain.mayC (Plain.cf4 l) = true := by
  unfold Plain.mayC Plain.labsB Plain.cf4
  dsimp only
  rw [Plain.labsF_len]
  have h : (Plain.labsF l).all (Plain.labB 4) = true := by
    rw [List.all_eq_true]
    intro x hx
    have := Plain.labsF_in l x hx
    unfold Plain.labB
    simp only [Bool.and_eq_true, decide_eq_true_eq]
    exact ⟨this.1, this.2⟩
  rw [h]
  rfl
theorem bodyPost_C {fn : Func} {p : Tmp} {Q : Ending → World → Prop} {a : Act} {w : World} (h : fn.results = #[.cell p 25]) (G : Nat) (c : Plain.Cf) (lv mv : Value) (hp : a.tmps.getD p undef = .pointer (some ⟨G, 0, none⟩))
    (hg : w.heap[G]? = some (.cells #[.int .i64 c.n, lv, .int .i64 c.t, mv, .int .i64 c.cap] 25 (0, 0))) (hd : a.defers = []) (hR : Q (.returned (cfV c lv mv)) w) : bodyPost Try.prog fn Q .ret a w :=
  bodyPost_ret (results_cell_row (P := Try.prog) h _ _ G 25 _ (0, 0) _ hp hg Try.underlying25 rfl (by kernel_rfl)) hd hR
set_option maxHeartbeats 4000000 in
set_option maxRecDepth 100000 in
theorem config_c (p : Option Addr) (n cap : Nat) (l : List Int) (hbig : n ≤ 9223372036854775807) (hn : l.length = n) (hwf : ∀ x, x ∈ l → -9223372036854775808 ≤ x ∧ x ≤ 9223372036854775807) (w : World) (hp : NumsQ w p l) :
    Calls Try.prog 5 #[.slice p n cap, .int .i64 1, .int .i64 1, .int .i64 1] w fun e w' => ∃ lv mv, e = .returned (cfV (Plain.cf4 l) lv mv) ∧ CfI w' (Plain.cf4 l) lv mv ∧ Below w.heap.size w w' := by
  have P1 := hid (fun W => picked_any 1 4 (by decide) (by decide) (by decide) (by decide) W)
  have P2 := hid (fun W => picked_any 1 60 (by decide) (by decide) (by decide) (by decide) W)
  have P3 := hid (fun W => picked_any 0 60 (by decide) (by decide) (by decide) (by decide) W)
  have P4 := hid (fun W => picked_any 1 20 (by decide) (by decide) (by decide) (by decide) W)
  obtain ⟨Z, hZ⟩ : ∃ Z, Z = w.alloc (.cells #[.int .i64 0, .slice none 0 0, .int .i64 0, .slice none 0 0, .int .i64 0] 25) := ⟨_, rfl⟩
  have bZ : Below w.heap.size w Z := by rw [hZ]; exact (Below.refl _ _).alloc (Nat.le_refl _) _
  have hG : Z.heap[w.heap.size]? = some (.cells #[.int .i64 0, .slice none 0 0, .int .i64 0, .slice none 0 0, .int .i64 0] 25 (0, 0)) := by rw [hZ]; exact Deep.blk_alloc_new _ _
  have KL := labels_c p n cap l hbig hn hwf Z (fun h0 => by
    obtain ⟨b, off, rfl, hb, hc⟩ := hp h0
    exact ⟨b, off, rfl, Nat.lt_of_lt_of_le hb bZ.size, fun j hj => (bZ.cell (p := ⟨b, off + j, none⟩) hb).trans (hc j hj)⟩)
  have BZ := hid bZ
  have HG := hid hG
  have HZL := hid (show w.heap.size < Z.heap.size by rw [hZ]; simp)
  have HZ := hid hZ
  clear hp hwf bZ hG hZ
  simp only [show (1 : Int) % 4 = 1 from rfl] at P1
  simp only [show (1 : Int) % 60 = 1 from rfl] at P2
  simp only [show (0 : Int) % 60 = 0 from rfl] at P3
  simp only [show (1 : Int) % 20 = 1 from rfl] at P4
  go_enter Try.func5, Try.ntmps5
  go_upto_region 1 with fail
  rw [← HZ.out]
  clear HZ
  go_wp2_with fail
  refine KL.mono ?_
  rintro e W1 ⟨rfl, r1, b1⟩
  have R1 := hid r1
  have B1 := hid (BZ.out.trans (b1.mono BZ.out.size))
  have G1 := hid ((b1.block w.heap.size HZL.out).trans HG.out)
  have HS1 := hid (show Z.heap.size < W1.heap.size from r1.lt)
  clear KL r1 b1 HG
  go_wp2_with fail
  refine (P1.out _).mono ?_
  rintro e w9 ⟨rfl, hx⟩
  have hy := hx.symm
  clear hx P1
  subst hy
  go_wp2_with fail
  refine (P2.out _).mono ?_
  rintro e w9 ⟨rfl, hx⟩
  have hy := hx.symm
  clear hx P2
  subst hy
  go_wp2_with fail
  refine (P3.out _).mono ?_
  rintro e w9 ⟨rfl, hx⟩
  have hy := hx.symm
  clear hx P3
  subst hy
  go_wp2_with fail
  obtain ⟨W2, hW2⟩ : ∃ W2, W2 = W1.alloc (.cells #[.int .i64 1, .int .i64 0] 3) := ⟨_, rfl⟩
  have bb : Below W1.heap.size W1 W2 := by rw [hW2]; exact (Below.refl _ _).alloc (Nat.le_refl _) _
  have m0 : W2.cell? ⟨W1.heap.size, 0, none⟩ = some (.int .i64 1) := by rw [hW2, World.cell?_alloc_at _ _ _ _ rfl]; rfl
  have m1 : W2.cell? ⟨W1.heap.size, 1, none⟩ = some (.int .i64 0) := by rw [hW2, World.cell?_alloc_at _ _ _ _ rfl]; rfl
  have M2 := hid (And.intro m0 m1)
  have HM2 := hid (show W1.heap.size < W2.heap.size by rw [hW2]; simp)
  rw [← hW2]
  have R2 := hid (R1.out.of_block (bb.block _ R1.out.lt))
  have B2 := hid (B1.out.trans (bb.mono B1.out.size))
  have G2 := hid ((bb.block w.heap.size (Array.getElem?_eq_some_iff.1 G1.out).1).trans G1.out)
  clear hW2 bb m0 m1 R1 B1 G1
  refine (P4.out _).mono ?_
  rintro e w9 ⟨rfl, hx⟩
  have hy := hx.symm
  clear hx P4
  subst hy
  have hcl : ∀ j u, (#[Value.int .i64 0, .slice none 0 0, .int .i64 0, .slice none 0 0, .int .i64 0] : Array Value)[j]? = some u → W2.cell? ⟨w.heap.size, j, none⟩ = some u := fun j u hj => by
    rw [cell_of_row W2 w.heap.size j _ 25 (0, 0) G2.out]
    exact hj
  have k0 := hcl 0 _ rfl
  have k1 := hcl 1 _ rfl
  have k2 := hcl 2 _ rfl
  have k3 := hcl 3 _ rfl
  have k4 := hcl 4 _ rfl
  have f0 := frozen_of_row W2 w.heap.size 0 _ 25 G2.out
  have f1 := frozen_of_row W2 w.heap.size 1 _ 25 G2.out
  have f2 := frozen_of_row W2 w.heap.size 2 _ 25 G2.out
  have f3 := frozen_of_row W2 w.heap.size 3 _ 25 G2.out
  have f4 := frozen_of_row W2 w.heap.size 4 _ 25 G2.out
  have hlt := (Array.getElem?_eq_some_iff.1 G2.out).1
  clear hcl
  obtain ⟨G, hG⟩ : ∃ G, G = w.heap.size := ⟨_, rfl⟩
  obtain ⟨T, hT⟩ : ∃ T, T = Z.heap.size := ⟨_, rfl⟩
  obtain ⟨M, hM⟩ : ∃ M, M = W1.heap.size := ⟨_, rfl⟩
  rw [← hG] at k0 k1 k2 k3 k4 f0 f1 f2 f3 f4 hlt G2 ⊢
  rw [← hT] at R2 HS1 ⊢
  rw [← hM] at M2 HM2 ⊢
  have HGE := hid (show w.heap.size ≤ G ∧ G < T ∧ T < M by have h1 := HZL.out; have h2 := HS1.out; omega)
  clear hG hT hM
  go_wp2
  (try simp only [Exit.inBlock, Exit.then])
  change bodyPost Try.prog _ _ Exit.ret _ (putC W2 G 4 (.slice (some ⟨T, 0, none⟩) 3 3) 2 (.slice (some ⟨M, 0, none⟩) 2 2) 1)
  have hTG : T ≠ G := by have := HGE.out; omega
  have hMG : M ≠ G := by have := HGE.out; omega
  have hTl : T < W2.heap.size := R2.out.lt
  refine bodyPost_C rfl G (Plain.cf4 l) (.slice (some ⟨T, 0, none⟩) 3 3) (.slice (some ⟨M, 0, none⟩) 2 2) rfl (putC_at G2.out _ _ _ _ _) rfl ⟨_, _, rfl, ⟨?_, ?_, ?_, ?_, ?_, ?_, ?_⟩, putC_below B2.out HGE.out.1 _ _ _ _ _⟩
  · refine .inr ⟨T, 0, 3, by show _ = Value.slice _ (Plain.labsF l).length _; rw [Plain.labsF_len], fun j hj => ?_⟩
    have hj3 : j < 3 := by have : (Plain.labsF l).length = 3 := Plain.labsF_len l; show j < 3; rw [← this]; exact hj
    rw [Nat.zero_add, World.cell?_of_block (w := W2) (a := ⟨T, j, none⟩) (putC_far W2 G _ _ _ _ _ hTG), R2.out.cell hj3]
    rfl
  · exact lies_at (by rw [putC_size]; exact hTl)
  · refine .inr ⟨M, 0, 2, rfl, fun j hj => ?_⟩
    have hj2 : j = 0 ∨ j = 1 := by have : j < 2 := hj; omega
    rw [Nat.zero_add, World.cell?_of_block (w := W2) (a := ⟨M, j, none⟩) (putC_far W2 G _ _ _ _ _ hMG)]
    rcases hj2 with rfl | rfl
    · exact M2.out.1
    · exact M2.out.2
  · exact lies_at (by rw [putC_size]; exact HM2.out)
  · intro x hx
    have := Plain.labsF_in l x hx
    omega
  · show (Plain.labsF l).length ≤ _
    rw [Plain.labsF_len]; decide
  · show 2 ≤ _
    decide
end Go.Proofs.Ytkmnofmhjoehiam
