/-
  book: NewBroker.
-/
import Derived.Test.YtiolkeghgodggajY7
namespace Go.Proofs.Ytiolkeghgodggaj.Bo
open Go.RowKit Go.Shelf Go.Sort

abbrev cellsB (mo tk : Int) (A G bm : Nat) : Array Value := #[.int .i64 mo, .int .i64 tk, .int .i64 0, .int .i64 0, .slice (some ⟨A, 0, none⟩) bm bm, .slice (some ⟨G, 0, none⟩) bm bm, .slice none 0 0, .int .i64 0]
abbrev zeroB : Array Value := #[.int .i64 0, .int .i64 0, .int .i64 0, .int .i64 0, .slice none 0 0, .slice none 0 0, .slice none 0 0, .int .i64 0]
theorem bodyPost_B {fn : Func} {p u : Tmp} {Q : Ending → World → Prop} {a : Act} {w : World} (h : fn.results = #[.cell p 62, .tmp u]) (R : Nat) (c : Array Value) (v : Value) (hs : c.size = 8) (hp : a.tmps.getD p undef = .pointer (some ⟨R, 0, none⟩)) (hu : a.tmps.getD u undef = v)
    (hg : w.heap[R]? = some (.cells c 62 (0, 0))) (hd : a.defers = []) (hR : Q (.returned (.tuple #[.agg c, v])) w) : bodyPost Try.prog fn Q .ret a w := by
  refine bodyPost_ret ?_ hd hR
  rw [results_cell_tmp h, hp, hu]
  have hl := run_loadVar_row (P := Try.prog) w R 62 62 c (0, 0) _ hg Try.underlying62 rfl (by rw [hs]; kernel_rfl)
  simp [asAddr, hl]
theorem al3 (W : World) (o1 o2 o3 : Obj) : (((W.alloc o1).alloc o2).alloc o3).drew.heap[W.heap.size]? = some o1 ∧ (((W.alloc o1).alloc o2).alloc o3).drew.heap[W.heap.size + 1]? = some o2 ∧ (((W.alloc o1).alloc o2).alloc o3).drew.heap[W.heap.size + 1 + 1]? = some o3 ∧ Below W.heap.size W (((W.alloc o1).alloc o2).alloc o3).drew := by
  have s1 : (W.alloc o1).heap.size = W.heap.size + 1 := by simp
  have s2 : ((W.alloc o1).alloc o2).heap.size = W.heap.size + 1 + 1 := by simp
  have b2 : Below (W.alloc o1).heap.size (W.alloc o1) ((W.alloc o1).alloc o2) := (Below.refl _ _).alloc (Nat.le_refl _) _
  have b3 : Below ((W.alloc o1).alloc o2).heap.size ((W.alloc o1).alloc o2) (((W.alloc o1).alloc o2).alloc o3) := (Below.refl _ _).alloc (Nat.le_refl _) _
  refine ⟨?_, ?_, ?_, ((((Below.refl _ _).alloc (Nat.le_refl _) _).alloc (by omega) _).alloc (by omega) _).drew⟩
  · exact (b3.block _ (by omega)).trans ((b2.block _ (by omega)).trans (Deep.blk_alloc_new _ _))
  · have := Deep.blk_alloc_new (W.alloc o1) o2
    rw [s1] at this
    exact (b3.block _ (by omega)).trans this
  · have := Deep.blk_alloc_new ((W.alloc o1).alloc o2) o3
    rw [s2] at this
    exact this
theorem mkZ {wx : World} {b bm : Nat} (h : wx.heap[b]? = some (.cells (madeCells #[.int .i64 0] bm) 3)) : wx.rowIs b 3 bm (fun _ => .int .i64 0) := ⟨_, h, size_madeCells _ _, fun i hi => by simp [madeCells, hi, Nat.mod_one]⟩
/-- What NewBroker leaves. -/
def NewP (bm tk : Nat) (mo : Int) (w : World) (e : Ending) (w' : World) : Prop :=
  ∃ A G, e = .returned (.tuple #[.agg (cellsB mo tk A G bm), .int .i64 0]) ∧ w'.rowIs A 3 bm (fun _ => .int .i64 0) ∧ w'.rowIs G 3 bm (fun _ => .int .i64 0) ∧ w.heap.size ≤ A ∧ w.heap.size ≤ G ∧ A ≠ G ∧ Below w.heap.size w w'

set_option maxHeartbeats 4000000 in
set_option maxRecDepth 100000 in
theorem new_yes (bm tk : Nat) (mo : Int) (h1 : 1 ≤ (bm : Int) ∧ (bm : Int) ≤ 8) (h2 : 0 ≤ mo ∧ mo ≤ 1048576) (h3 : 1 ≤ (tk : Int) ∧ (tk : Int) ≤ 8) (w : World) :
    Calls Try.prog 21 #[.int .i64 bm, .int .i64 mo, .int .i64 tk] w fun e w' => NewP bm tk mo w e w' := by
  have K1 := fun W => from_t h1 W
  have K2 := fun W => from_t h2 W
  have K3 := fun W => from_t h3 W
  have hmb := run_make_row' (P := Try.prog) 29 3 (.int .i64 0) 8 Try.underlying29 Try.infoInt rfl .i64 .i64 bm (by omega) (by omega)
  go_enter Try.func21, Try.ntmps21
  go_wp2_with fail
  refine (K1 _).mono ?_
  rintro e wx ⟨rfl, hx⟩
  have hy := hx.symm
  clear hx K1
  subst hy
  go_wp2_with fail
  refine (K2 _).mono ?_
  rintro e wx ⟨rfl, hx⟩
  have hy := hx.symm
  clear hx K2
  subst hy
  go_wp2_with fail
  refine (K3 _).mono ?_
  rintro e wx ⟨rfl, hx⟩
  have hy := hx.symm
  clear hx K3
  subst hy
  go_wp2
  go_region
  all_goals
    go_wp2
    (try simp only [Exit.inBlock, Exit.then])
  all_goals
    first
      | exact bodyPost_B rfl w.heap.size _ (.int .i64 0) rfl rfl rfl (al3 _ _ _ _).1 rfl ⟨_, _, rfl, mkZ (al3 _ _ _ _).2.1, mkZ (al3 _ _ _ _).2.2.1, by omega, by omega, by omega, (al3 _ _ _ _).2.2.2⟩
      | exact bodyPost_B rfl w.heap.size _ (.int .i64 0) rfl rfl rfl (al3 _ _ _ _).1 rfl ⟨_, _, rfl, mkZ (al3 _ _ _ _).2.2.1, mkZ (al3 _ _ _ _).2.1, by omega, by omega, by omega, (al3 _ _ _ _).2.2.2⟩
set_option maxHeartbeats 4000000 in
set_option maxRecDepth 100000 in
theorem new_no (bn mo ti : Int) (hE : ((bn < 1 ∨ 8 < bn) ∨ (mo < 0 ∨ 1048576 < mo)) ∨ (ti < 1 ∨ 8 < ti)) (w : World) :
    Calls Try.prog 21 #[.int .i64 bn, .int .i64 mo, .int .i64 ti] w fun e w' => e = .returned (.tuple #[.agg zeroB, .int .i64 2]) ∧ Below w.heap.size w w' := by
  have hb := Deep.blk_alloc_new w (.cells zeroB 62)
  have HB := hid hb
  have BW := hid (show Below w.heap.size w (w.alloc (.cells zeroB 62)) from (Below.refl _ _).alloc (Nat.le_refl _) _)
  clear hb
  by_cases h1 : 1 ≤ bn ∧ bn ≤ 8
  case neg =>
    have K1 := fun W => from_f h1 W
    clear hE h1
    go_enter Try.func21, Try.ntmps21
    go_wp2_with fail
    refine (K1 _).mono ?_
    rintro e wx ⟨rfl, hx⟩
    have hy := hx.symm
    clear hx K1
    subst hy
    go_wp2
    (try simp only [Exit.inBlock, Exit.then])
    exact bodyPost_B rfl w.heap.size _ (.int .i64 2) rfl rfl rfl HB.out rfl ⟨rfl, BW.out⟩
  by_cases h2 : 0 ≤ mo ∧ mo ≤ 1048576
  case neg =>
    have K1 := fun W => from_t h1 W
    have K2 := fun W => from_f h2 W
    clear hE h1 h2
    go_enter Try.func21, Try.ntmps21
    go_wp2_with fail
    refine (K1 _).mono ?_
    rintro e wx ⟨rfl, hx⟩
    have hy := hx.symm
    clear hx K1
    subst hy
    go_wp2_with fail
    refine (K2 _).mono ?_
    rintro e wx ⟨rfl, hx⟩
    have hy := hx.symm
    clear hx K2
    subst hy
    go_wp2
    (try simp only [Exit.inBlock, Exit.then])
    exact bodyPost_B rfl w.heap.size _ (.int .i64 2) rfl rfl rfl HB.out rfl ⟨rfl, BW.out⟩
  have h3 : ¬ (1 ≤ ti ∧ ti ≤ 8) := by omega
  have K1 := fun W => from_t h1 W
  have K2 := fun W => from_t h2 W
  have K3 := fun W => from_f h3 W
  clear hE h1 h2 h3
  go_enter Try.func21, Try.ntmps21
  go_wp2_with fail
  refine (K1 _).mono ?_
  rintro e wx ⟨rfl, hx⟩
  have hy := hx.symm
  clear hx K1
  subst hy
  go_wp2_with fail
  refine (K2 _).mono ?_
  rintro e wx ⟨rfl, hx⟩
  have hy := hx.symm
  clear hx K2
  subst hy
  go_wp2_with fail
  refine (K3 _).mono ?_
  rintro e wx ⟨rfl, hx⟩
  have hy := hx.symm
  clear hx K3
  subst hy
  go_wp2
  (try simp only [Exit.inBlock, Exit.then])
  exact bodyPost_B rfl w.heap.size _ (.int .i64 2) rfl rfl rfl HB.out rfl ⟨rfl, BW.out⟩
/-- A broker who has nothing. -/
theorem BkI.fresh {B R oo A G : Nat} {XX : Win} {W : World} {m t : Nat} {cap : Int} (hm1 : 1 ≤ m) (hm8 : m ≤ 8) (hc : 0 ≤ cap ∧ cap ≤ 1048576) (ht1 : 1 ≤ t) (ht8 : t ≤ 8) (row : W.rowIs R XX.t XX.n (XX.f oo 8 (bkR A G (.slice none 0 0) (Plain.Bk.new m cap t) 0))) (ra : W.rowIs A 3 m (fun _ => .int .i64 0)) (rg : W.rowIs G 3 m (fun _ => .int .i64 0)) (hR : B ≤ R) (hA : B ≤ A) (hG : B ≤ G) (RA : R ≠ A) (RG : R ≠ G) (AG : A ≠ G) (le : oo + 8 ≤ XX.n) :
    BkI B R oo XX A G W (.slice none 0 0) (Plain.Bk.new m cap t) 0 :=
  ⟨row, RowI.of_rowIs ra (by show (Plain.zeros m).length ≤ m; rw [Plain.zeros_len]; exact Nat.le_refl _) (fun i _ => by show Value.int .i64 0 = Value.int .i64 ((Plain.zeros m).getD i 0); rw [Plain.zeros_at]), RowI.of_rowIs rg (by show (Plain.zeros m).length ≤ m; rw [Plain.zeros_len]; exact Nat.le_refl _) (fun i _ => by show Value.int .i64 0 = Value.int .i64 ((Plain.zeros m).getD i 0); rw [Plain.zeros_at]),
    Plain.Ok.new hc (by omega), hm1, hm8, by show 0 = 0 % t; simp, .inl ⟨rfl, rfl⟩, hR, hA, hG, RA, RG, AG, ht8, le⟩
/-- The cells of one who has nothing. -/
theorem cellsB_at (mo : Int) (tk A G bm : Nat) : ∀ i, i < 8 → (cellsB mo tk A G bm)[i]? = some (bkR A G (.slice none 0 0) (Plain.Bk.new bm mo tk) 0 i) := fun i hi => by
  have : i = 0 ∨ i = 1 ∨ i = 2 ∨ i = 3 ∨ i = 4 ∨ i = 5 ∨ i = 6 ∨ i = 7 := by omega
  rcases this with rfl | rfl | rfl | rfl | rfl | rfl | rfl | rfl <;> rfl
end Go.Proofs.Ytiolkeghgodggaj.Bo
