/-
  Goroutines among others: part 14 of what the law's own text rests on.
-/
import Derived.Test.YtcobehkadhcjiaaCc13
import Derived.Conc.WgGenN3
import Derived.Conc.WgWords
/-
  crew.Splits: the numbers of sync.WaitGroup's functions; what the walks through them rest on.
-/
namespace Go.Proofs.Ytcobehkadhcjiaa
open Go Go.Conc Go.ConcR Go.RowKit Go.Conc.Lib Go.ConcR.Gen

abbrev wgL : WgLink := { add := 19, done := 21, wait := 23, relMerge := 36, disable := 37, enable := 38, inBubble := 39, associate := 40, fatal := 41, uOr := 42, uAdd := 43, raceRead := 44, uLoad := 45, uStore := 46, disassociate := 47, semrelease := 48, acquire := 55, isAssociated := 56, uCas := 57, raceWrite := 58, semacquire := 59, orU64 := 74, addU64 := 75, loadU64 := 76, storeU64 := 77, casU64 := 79, tWgP := 70, tUP := 72, tAssoc := 74, tWg := 57, tAU := 54, tU64 := 52, tUint := 78, tU32 := 55, tPU32 := 79, tPAU := 106, tPU64 := 108, tNoCopy := 49, tANoCopy := 50, tAlign64 := 51 }
theorem wgLib : WgLib Try.prog wgL :=
  ⟨Try.func19, Try.func21, Try.func23, Try.func36, Try.func37, Try.func38, Try.func39, Try.func40, Try.func41, Try.func42, Try.func43, Try.func44, Try.func45, Try.func46, Try.func47, Try.func48, Try.func55, Try.func56, Try.func57, Try.func58, Try.func59, Try.func74, Try.func75, Try.func76, Try.func77, Try.func79, Try.underlying70, Try.runUnderlying70, Try.sizeOf70, Try.isAgg70, Try.zeroValue70, Try.underlying72, Try.runUnderlying72, Try.sizeOf72, Try.isAgg72, Try.zeroValue72, Try.underlying74, Try.runUnderlying74, Try.sizeOf74, Try.isAgg74, Try.zeroValue74, Try.underlying57, Try.runUnderlying57, Try.sizeOf57, Try.isAgg57, Try.zeroValue57, Try.underlying54, Try.runUnderlying54, Try.sizeOf54, Try.isAgg54, Try.zeroValue54, Try.underlying52, Try.runUnderlying52, Try.sizeOf52, Try.isAgg52, Try.zeroValue52, Try.underlying78, Try.runUnderlying78, Try.sizeOf78, Try.isAgg78, Try.zeroValue78, Try.underlying55, Try.runUnderlying55, Try.sizeOf55, Try.isAgg55, Try.zeroValue55, Try.underlying79, Try.runUnderlying79, Try.sizeOf79, Try.isAgg79, Try.zeroValue79, Try.underlying106, Try.runUnderlying106, Try.sizeOf106, Try.isAgg106, Try.zeroValue106, Try.underlying108, Try.runUnderlying108, Try.sizeOf108, Try.isAgg108, Try.zeroValue108, Try.underlying0, Try.runUnderlying0, Try.sizeOf0, Try.isAgg0, Try.zeroValue0, Try.underlying3, Try.runUnderlying3, Try.sizeOf3, Try.isAgg3, Try.zeroValue3, Try.underlying4, Try.runUnderlying4, Try.sizeOf4, Try.isAgg4, Try.zeroValue4, Try.underlying9, Try.runUnderlying9, Try.sizeOf9, Try.isAgg9, Try.zeroValue9, Try.underlying20, Try.runUnderlying20, Try.sizeOf20, Try.isAgg20, Try.zeroValue20, Try.underlying21, Try.runUnderlying21, Try.sizeOf21, Try.isAgg21, Try.zeroValue21, (by kernel_rfl), (by kernel_rfl)⟩
end Go.Proofs.Ytcobehkadhcjiaa

/-
  sync.WaitGroup, of the first: where it stands within Add(1) and within Wait, whatever others do but to the group's block; Add(1).
-/
namespace Go.Proofs.Ytcobehkadhcjiaa
open Go Go.Conc Go.ConcN Go.ConcN.Gen Go.RowKit Go.Conc.Lib Go.ConcR.Gen
open Go.ConcR (KK wgBlock WgAt stA smA rd wr mk DC0)

/-- What others leave: the group's block is one. -/
def RL (ty : TypeId) (Wg : Nat) (w w₁ : World) : Prop := WgLive ty Wg w → WgLive ty Wg w₁
theorem rk {ty : TypeId} {Wg : Nat} {w w₁ : World} (h : WgLive ty Wg w) (r : RL ty Wg w w₁) : WgLive ty Wg w₁ := r h

section
variable (P : Program) (ty : TypeId) (Wg : Nat) (B : Goroutine)
local notation "GA" => Goes P true (RL ty Wg) DC0
/-- It is back. -/
def JBk (g : Goroutine) (_ : World) : Prop := g = B
def JKe (g : Goroutine) (w : World) : Prop := g.status = .running ∧ ∃ g', stepG P true g w = .go g' w #[mk .enable] ∧ ∃ m, GA (JBk B) m g' w
def JRd (g : Goroutine) (w : World) : Prop := g.status = .running ∧ ∃ g', stepG P true g w = .go g' w #[mk (.read (smA Wg))] ∧ ∃ m, GA (JKe P ty Wg B) m g' w
def JA1 (g : Goroutine) (w : World) : Prop := g.status = .running ∧ ∀ v : Nat, v < 2147483647 → WgAt ty Wg w (v * KK) 0 →
  ∃ g', stepG P true g w = .go g' (w.setCell (stA Wg) (.int .u64 ((v + 1) * KK))) #[rd (stA Wg), wr (stA Wg)] ∧ ∃ m, GA (if v = 0 then JRd P ty Wg B else JKe P ty Wg B) m g' (w.setCell (stA Wg) (.int .u64 ((v + 1) * KK)))
def JKd (g : Goroutine) (w : World) : Prop := g.status = .running ∧ ∃ g', stepG P true g w = .go g' w #[mk .disable] ∧ ∃ m, GA (JA1 P ty Wg B) m g' w
def WAc (g : Goroutine) (w : World) : Prop := g.status = .running ∧ ∃ g', stepG P true g w = .go g' w #[mk (.acquire (stA Wg))] ∧ ∃ m, GA (JBk B) m g' w
def WKe (g : Goroutine) (w : World) : Prop := g.status = .running ∧ ∃ g', stepG P true g w = .go g' w #[mk .enable] ∧ ∃ m, GA (WAc P ty Wg B) m g' w
def W4 (g : Goroutine) (w : World) : Prop := g.status = .running ∧ (WgAt ty Wg w 0 0 → ∃ g', stepG P true g w = .go g' w #[rd (stA Wg)] ∧ ∃ m, GA (WKe P ty Wg B) m g' w)
def W3 (g : Goroutine) (w : World) : Prop := g.status = .running ∧ g.offers = none ∧ ((∃ st, WgAt ty Wg w st 0) → stepG P true g w = .go { g with status := .blocked } w #[]) ∧
  (WgAt ty Wg w 0 1 → ∃ g', stepG P true g w = .go g' (w.setCell (smA Wg) (.int .u32 0)) (semEvents (smA Wg)) ∧ ∃ m, GA (W4 P ty Wg B) m g' (w.setCell (smA Wg) (.int .u32 0)))
def WWr (g : Goroutine) (w : World) : Prop := g.status = .running ∧ ∃ g', stepG P true g w = .go g' w #[mk (.write (smA Wg))] ∧ ∃ m, GA (W3 P ty Wg B) m g' w
def W2 (An : Goroutine → World → Prop) (vs : Nat) (g : Goroutine) (w : World) : Prop := g.status = .running ∧ ∀ v : Nat, v < 2147483648 → WgAt ty Wg w (v * KK) 0 →
  (v = vs → ∃ g', stepG P true g w = .go g' (w.setCell (stA Wg) (.int .u64 (v * KK + 1))) #[rd (stA Wg), wr (stA Wg)] ∧ ∃ m, GA (WWr P ty Wg B) m g' (w.setCell (stA Wg) (.int .u64 (v * KK + 1)))) ∧
  (v ≠ vs → ∃ g', stepG P true g w = .go g' w #[rd (stA Wg)] ∧ ∃ m, GA An m g' w)
def W1 (An : Goroutine → World → Prop) (g : Goroutine) (w : World) : Prop := g.status = .running ∧ ∀ v : Nat, v < 2147483648 → WgAt ty Wg w (v * KK) 0 → ∃ g', stepG P true g w = .go g' w #[rd (stA Wg)] ∧
  (v = 0 → ∃ m, GA (WKe P ty Wg B) m g' w) ∧ (v ≠ 0 → ∃ m, GA (W2 P ty Wg B An v) m g' w)
def WKd (An : Goroutine → World → Prop) (g : Goroutine) (w : World) : Prop := g.status = .running ∧ ∃ g', stepG P true g w = .go g' w #[mk .disable] ∧ ∃ m, GA An m g' w
end

section
variable {P : Program} {L : WgLink} {Wg : Nat} {b₀ : Frame} {a₀ : Act} {ops₀ : Array Oper} {i₀ : Nat} {rest₀ : List Nat} {k₀ : List Item} {cs : List Frame}
set_option maxRecDepth 100000 in
set_option maxHeartbeats 8000000 in
/-- Add(1), from its entry until it is back. -/
theorem add_one (H : WgLib P L) (w : World) (hF : WgLive L.tWg Wg w) :
    Goes P true (RL L.tWg Wg) DC0 (JKd P L.tWg Wg (G (b₀.at (a₀.put ((ops₀[i₀]?).bind (·.dst)) (.tuple #[])) (.inRegion ops₀ rest₀ :: k₀)) cs)) 12
      (G ((base L.add).at ⟨#[.pointer (some ⟨Wg, 0, none⟩), .int .i64 1, undef, undef, undef, undef, undef, undef, undef, undef, undef, undef, undef, undef, undef, undef, undef, undef, undef, undef, undef, undef, undef, undef, undef, undef, undef, undef, undef, undef, undef, undef, undef, undef, undef, undef, undef, undef, undef, undef, undef, undef, undef, undef, undef, undef, undef, undef, undef, undef, undef, undef, undef, undef, undef, undef, undef, undef, undef, undef, undef, undef, undef, undef, undef, undef, undef, undef, undef, undef, undef, undef, undef, undef, undef, undef, undef, undef, undef, undef, undef, undef, undef, undef, undef, undef, undef, undef, undef, undef, undef, undef, undef, undef, undef, undef, undef, undef, undef, undef, undef, undef, undef, undef, undef, undef, undef, undef, undef, undef, undef, undef, undef, undef, undef, undef, undef], []⟩ [.code (body_add L)]) (b₀.at a₀ (.inRegion ops₀ (i₀ :: rest₀) :: k₀) :: cs)) w := by
  lib_facts
  simp only [body_add, addFn, Option.getD_some]
  u_c stepG_seq rk hF
  u_cond true rk hF
  u_c stepG_seq rk hF
  u_c stepG_seq rk hF
  u_reg rk hF
  u_op rk hF
  u_op rk hF
  u_c stepG_region_end rk hF
  u_cond false rk hF
  u_c stepG_skip rk hF
  u_c stepG_seq rk hF
  u_reg rk hF
  refine Goes.stop (fun w1 h1 => ?_)
  replace hF := rk hF h1
  clear h1
  refine ⟨rfl, _, stepG_mark0 .disable (by simp) rfl rfl (by k_ne) rfl H.f_disable (x_disable_n L) (x_disable_b L) (x_disable_x L) (x_disable_f L), 40, ?_⟩
  walk_nrm
  u_c stepG_region_end rk hF
  u_reg rk hF
  u_defer rk hF
  u_c stepG_region_end rk hF
  u_c stepG_seq rk hF
  u_reg rk hF
  u_op rk hF
  u_c stepG_region_end rk hF
  u_c stepG_seq rk hF
  u_c stepG_seq rk hF
  u_reg rk hF
  u_bub rk hF
  u_c stepG_region_end rk hF
  u_cond false rk hF
  u_c stepG_skip rk hF
  u_c stepG_seq rk hF
  u_reg rk hF
  u_op rk hF
  u_op rk hF
  u_op rk hF
  u_op rk hF
  u_op rk hF
  u_op rk hF
  u_call H.f_uAdd (nm_uAdd L) uAddFn rk hF
  u_c stepG_seq rk hF
  u_reg rk hF
  u_op rk hF
  u_c stepG_region_end rk hF
  u_c stepG_seq rk hF
  u_reg rk hF
  u_op rk hF
  u_op rk hF
  u_op rk hF
  u_op rk hF
  refine Goes.stop (fun w2 h2 => ?_)
  replace hF := rk hF h2
  clear h2
  refine ⟨rfl, fun v hv hw => ?_⟩
  rcases Nat.eq_zero_or_pos v with rfl | hvp
  · replace hw : WgAt L.tWg Wg w2 0 0 := by simpa using hw
    have z : (((0 : Nat) : Int) + 1) * KK = KK := by simp
    rw [z]
    have e0 : IntKind.u64.wrap (0 + 4294967296) = KK := by decide
    refine ⟨_, (stepG_add_atomic rfl rfl (by k_ne) rfl H.f_addU64 (x_addU64_n L) (x_addU64_b L) (x_addU64_x L) .u64 (x_addU64_f L) rfl rfl hw.cellSt (hw.thaw 0)).trans (by rw [e0]; rfl), 110, ?_⟩
    replace hF : WgLive L.tWg Wg (w2.setCell (stA Wg) (.int .u64 KK)) := ⟨_, _, hw.setSt _⟩
    clear hw
    simp only [KK] at hF ⊢
    walk_nrm
    u_op rk hF
    u_c stepG_region_end rk hF
    u_c stepG_ret' rk hF
    u_leave1 H.f_uAdd rk hF
    u_op rk hF
    u_c stepG_region_end rk hF
    u_c stepG_seq rk hF
    u_c stepG_seq rk hF
    u_reg rk hF
    u_op rk hF
    u_op rk hF
    u_op rk hF
    u_op rk hF
    u_skip rk hF
    u_skip rk hF
    u_op rk hF
    u_c stepG_region_end rk hF
    u_cond false rk hF
    u_c stepG_skip rk hF
    u_c stepG_seq rk hF
    u_reg rk hF
    u_op rk hF
    u_op rk hF
    u_op rk hF
    u_op rk hF
    u_c stepG_region_end rk hF
    u_c stepG_seq rk hF
    u_reg rk hF
    u_op rk hF
    u_op rk hF
    u_op rk hF
    u_op rk hF
    u_c stepG_region_end rk hF
    u_c stepG_seq rk hF
    u_c stepG_seq rk hF
    u_reg rk hF
    u_op rk hF
    u_op rk hF
    u_op rk hF
    u_op rk hF
    u_op rk hF
    u_op rk hF
    u_op rk hF
    u_op rk hF
    u_op rk hF
    u_op rk hF
    u_c stepG_region_end rk hF
    u_cond true rk hF
    u_reg rk hF
    u_op rk hF
    u_op rk hF
    u_op rk hF
    u_conv H.underlying_tPU32 H.room_tU32 (WgLive.cell1 hF).choose_spec rk hF
    refine Goes.stop (fun w4 h4 => ?_)
    replace hF := rk hF h4
    clear h4
    refine ⟨rfl, _, stepG_markAt .read (by simp) rfl rfl (by k_ne) rfl H.f_raceRead (x_raceRead_n L) (x_raceRead_b L) (x_raceRead_x L) (x_raceRead_f L) (by simp [Act.eval, smA]), 80, ?_⟩
    walk_nrm
    u_c stepG_region_end rk hF
    u_c stepG_seq rk hF
    u_c stepG_seq rk hF
    u_reg rk hF
    u_op rk hF
    u_op rk hF
    u_c stepG_region_end rk hF
    u_cond false rk hF
    u_c stepG_skip rk hF
    u_c stepG_seq rk hF
    u_c stepG_seq rk hF
    u_reg rk hF
    u_op rk hF
    u_op rk hF
    u_op rk hF
    u_skip rk hF
    u_skip rk hF
    u_op rk hF
    u_op rk hF
    u_skip rk hF
    u_skip rk hF
    u_skip rk hF
    u_skip rk hF
    u_op rk hF
    u_c stepG_region_end rk hF
    u_cond false rk hF
    u_c stepG_skip rk hF
    u_c stepG_seq rk hF
    u_c stepG_seq rk hF
    u_reg rk hF
    u_op rk hF
    u_op rk hF
    u_op rk hF
    u_skip rk hF
    u_skip rk hF
    u_op rk hF
    u_c stepG_region_end rk hF
    u_cond true rk hF
    u_c stepG_ret' rk hF
    refine Goes.stop (fun w3 h3 => ?_)
    replace hF := rk hF h3
    clear h3
    refine ⟨rfl, _, stepG_unwind_entry (v := .tuple #[]) (evs := #[mk .enable]) rfl H.f_enable (x_enable_n L) (x_enable_b L) (x_enable_x L) (x_enable_f L) (by simp [Extern.Race.none_]) (by simp [mk]) (by simp [mk]), 2, ?_⟩
    u_leave0 H.f_add rk hF
    exact Goes.stop fun _ _ => rfl
  · obtain ⟨V, hV⟩ : ∃ V : Int, V = (v : Int) + 1 := ⟨_, rfl⟩
    obtain ⟨S, hS⟩ : ∃ S : Int, S = V * KK := ⟨_, rfl⟩
    have eS : IntKind.u64.wrap ((v : Int) * KK + 4294967296) = S := by rw [IntKind.wrap_u64, hS, hV]; simp only [KK]; omega
    rw [← hV, ← hS]
    have a1 : S / 4294967296 = V := by rw [hS]; simp only [KK]; omega
    have b1 : bits .and .u64 S 2147483648 = 0 := by rw [hS, hV]; have := st_flag (v + 1) 0 (by omega) (by omega); simpa [KK] using this
    have b2 : bits .and .u64 S 2147483647 = 0 := by rw [hS, hV]; have := st_waiters (v + 1) 0 (by omega) (by omega); simpa [KK] using this
    have c1 : IntKind.i32.wrap V = V := by rw [IntKind.wrap_i32]; omega
    have hV1 : 1 < V := by omega
    have hV2 : V < 2147483648 := by omega
    have q1 : (V == 1) = false := by simp; omega
    have q2 : decide (V = 1) = false := decide_eq_false (by omega)
    have q3 : decide (V < 0) = false := decide_eq_false (by omega)
    have q4 : decide (0 < V) = true := decide_eq_true (by omega)
    have q5 : (V == 0) = false := by simp; omega
    have q6 : decide (V = 0) = false := decide_eq_false (by omega)
    refine ⟨_, (stepG_add_atomic rfl rfl (by k_ne) rfl H.f_addU64 (x_addU64_n L) (x_addU64_b L) (x_addU64_x L) .u64 (x_addU64_f L) rfl rfl hw.cellSt (hw.thaw 0)).trans (by rw [eS]; rfl), 110, ?_⟩
    replace hF : WgLive L.tWg Wg (w2.setCell (stA Wg) (.int .u64 S)) := ⟨_, _, hw.setSt _⟩
    clear hw hS hV eS
    rw [if_neg (by omega)]
    walk_nrm
    u_op rk hF
    u_c stepG_region_end rk hF
    u_c stepG_ret' rk hF
    u_leave1 H.f_uAdd rk hF
    u_op rk hF
    u_c stepG_region_end rk hF
    u_c stepG_seq rk hF
    u_c stepG_seq rk hF
    u_reg rk hF
    u_op rk hF
    u_op rk hF
    u_op rk hF
    u_op rk hF
    u_skip rk hF
    u_skip rk hF
    u_op rk hF
    u_c stepG_region_end rk hF
    u_cnd false rk hF
    u_c stepG_skip rk hF
    u_c stepG_seq rk hF
    u_reg rk hF
    u_op rk hF
    u_op rk hF
    u_op rk hF
    u_op rk hF
    u_c stepG_region_end rk hF
    u_c stepG_seq rk hF
    u_reg rk hF
    u_op rk hF
    u_op rk hF
    u_op rk hF
    u_op rk hF
    u_c stepG_region_end rk hF
    u_c stepG_seq rk hF
    u_c stepG_seq rk hF
    u_reg rk hF
    u_op rk hF
    u_op rk hF
    u_op rk hF
    u_op rk hF
    u_op rk hF
    u_op rk hF
    u_op rk hF
    u_op rk hF
    u_op rk hF
    u_op rk hF
    u_c stepG_region_end rk hF
    u_cnd false rk hF
    u_c stepG_skip rk hF
    u_c stepG_seq rk hF
    u_c stepG_seq rk hF
    u_reg rk hF
    u_op rk hF
    u_op rk hF
    u_c stepG_region_end rk hF
    u_cnd false rk hF
    u_c stepG_skip rk hF
    u_c stepG_seq rk hF
    u_c stepG_seq rk hF
    u_reg rk hF
    u_op rk hF
    u_op rk hF
    u_op rk hF
    u_skip rk hF
    u_skip rk hF
    u_op rk hF
    u_op rk hF
    u_skip rk hF
    u_skip rk hF
    u_skip rk hF
    u_skip rk hF
    u_op rk hF
    u_c stepG_region_end rk hF
    u_cnd false rk hF
    u_c stepG_skip rk hF
    u_c stepG_seq rk hF
    u_c stepG_seq rk hF
    u_reg rk hF
    u_op rk hF
    u_op rk hF
    u_op rk hF
    u_skip rk hF
    u_skip rk hF
    u_op rk hF
    u_c stepG_region_end rk hF
    u_cnd true rk hF
    u_c stepG_ret' rk hF
    refine Goes.stop (fun w3 h3 => ?_)
    replace hF := rk hF h3
    clear h3
    refine ⟨rfl, _, stepG_unwind_entry (v := .tuple #[]) (evs := #[mk .enable]) rfl H.f_enable (x_enable_n L) (x_enable_b L) (x_enable_x L) (x_enable_f L) (by simp [Extern.Race.none_]) (by simp [mk]) (by simp [mk]), 2, ?_⟩
    u_leave0 H.f_add rk hF
    exact Goes.stop fun _ _ => rfl
end
end Go.Proofs.Ytcobehkadhcjiaa

/-
  sync.WaitGroup, of the first: Wait.
-/
namespace Go.Proofs.Ytcobehkadhcjiaa
open Go Go.Conc Go.ConcN Go.ConcN.Gen Go.RowKit Go.Conc.Lib Go.ConcR.Gen
open Go.ConcR (KK wgBlock WgAt stA smA rd wr mk DC0)

/-- At the head of Wait's loop. -/
def WHd (L : WgLink) (Wg : Nat) (c : Frame) (cs : List Frame) (g : Goroutine) (w : World) : Prop :=
  ∃ T : Array Value, g = G ((base L.wait).at ⟨T, []⟩ [.code (L7 L), .inLoop (L7 L), .inBlock 0]) (c :: cs) ∧ T.size = 84 ∧ T[0]? = some (.pointer (some ⟨Wg, 0, none⟩)) ∧ WgLive L.tWg Wg w
section
variable {P : Program} {L : WgLink} {Wg : Nat} {b₀ : Frame} {a₀ : Act} {ops₀ : Array Oper} {i₀ : Nat} {rest₀ : List Nat} {k₀ : List Item} {cs : List Frame}
set_option maxRecDepth 100000 in
set_option maxHeartbeats 8000000 in
/-- A round of Wait. -/
theorem wait_round (H : WgLib P L) (g : Goroutine) (w : World) (h : WHd L Wg (b₀.at a₀ (.inRegion ops₀ (i₀ :: rest₀) :: k₀)) cs g w) :
    ∃ m, Goes P true (RL L.tWg Wg) DC0 (W1 P L.tWg Wg (G (b₀.at (a₀.put ((ops₀[i₀]?).bind (·.dst)) (.tuple #[])) (.inRegion ops₀ rest₀ :: k₀)) cs) (WHd L Wg (b₀.at a₀ (.inRegion ops₀ (i₀ :: rest₀) :: k₀)) cs)) m g w := by
  lib_facts
  obtain ⟨T, rfl, hT84, t0, hF⟩ := h
  obtain ⟨v0, v1, v2, v3, v4, v5, v6, v7, v8, v9, v10, v11, v12, v13, v14, v15, v16, v17, v18, v19, v20, v21, v22, v23, v24, v25, v26, v27, v28, v29, v30, v31, v32, v33, v34, v35, v36, v37, v38, v39, v40, v41, v42, v43, v44, v45, v46, v47, v48, v49, v50, v51, v52, v53, v54, v55, v56, v57, v58, v59, v60, v61, v62, v63, v64, v65, v66, v67, v68, v69, v70, v71, v72, v73, v74, v75, v76, v77, v78, v79, v80, v81, v82, v83, rfl⟩ := array84 T hT84
  simp only [List.getElem?_toArray, List.getElem?_cons_zero, Option.some.injEq] at t0
  subst t0
  refine ⟨30, ?_⟩
  simp only [L7, body_wait, waitFn, Option.getD_some]
  u_c stepG_block rk hF
  u_c stepG_seq rk hF
  u_reg rk hF
  u_op rk hF
  u_op rk hF
  u_op rk hF
  u_call H.f_uLoad (nm_uLoad L) uLoadFn rk hF
  u_c stepG_seq rk hF
  u_reg rk hF
  u_op rk hF
  u_c stepG_region_end rk hF
  u_c stepG_seq rk hF
  u_reg rk hF
  u_op rk hF
  u_op rk hF
  u_op rk hF
  refine Goes.stop (fun w1 h1 => ?_)
  replace hF := rk hF h1
  clear h1
  refine ⟨rfl, fun v hv hw => ?_⟩
  rcases Nat.eq_zero_or_pos v with rfl | hvp
  · replace hw : WgAt L.tWg Wg w1 0 0 := by simpa using hw
    refine ⟨_, stepG_load_atomic (v := 0) rfl rfl (by k_ne) rfl H.f_loadU64 (x_loadU64_n L) (x_loadU64_b L) (x_loadU64_x L) .u64 (x_loadU64_f L) rfl hw.cellSt, fun _ => ⟨50, ?_⟩, fun h => absurd rfl h⟩
    clear hw
    walk_nrm
    u_op rk hF
    u_c stepG_region_end rk hF
    u_c stepG_ret' rk hF
    u_leave1 H.f_uLoad rk hF
    u_op rk hF
    u_c stepG_region_end rk hF
    u_c stepG_seq rk hF
    u_reg rk hF
    u_op rk hF
    u_op rk hF
    u_op rk hF
    u_op rk hF
    u_c stepG_region_end rk hF
    u_c stepG_seq rk hF
    u_reg rk hF
    u_op rk hF
    u_op rk hF
    u_op rk hF
    u_op rk hF
    u_c stepG_region_end rk hF
    u_c stepG_seq rk hF
    u_c stepG_seq rk hF
    u_reg rk hF
    u_op rk hF
    u_op rk hF
    u_c stepG_region_end rk hF
    u_cond true rk hF
    u_c stepG_seq rk hF
    u_cond true rk hF
    u_c stepG_seq rk hF
    u_reg rk hF
    refine Goes.stop (fun w5 h5 => ?_)
    replace hF := rk hF h5
    clear h5
    refine ⟨rfl, _, stepG_mark0 .enable (by simp) rfl rfl (by k_ne) rfl H.f_enable (x_enable_n L) (x_enable_b L) (x_enable_x L) (x_enable_f L), 12, ?_⟩
    walk_nrm
    u_c stepG_region_end rk hF
    u_reg rk hF
    u_op rk hF
    u_conv H.underlying_tWgP H.room_tWg (WgLive.cell0 hF).choose_spec rk hF
    refine Goes.stop (fun w6 h6 => ?_)
    replace hF := rk hF h6
    clear h6
    refine ⟨rfl, _, stepG_markAt .acquire (by simp) rfl rfl (by k_ne) rfl H.f_acquire (x_acquire_n L) (x_acquire_b L) (x_acquire_x L) (x_acquire_f L) (by simp [Act.eval, stA]), 30, ?_⟩
    walk_nrm
    u_c stepG_region_end rk hF
    u_c stepG_seq rk hF
    u_c stepG_seq rk hF
    u_reg rk hF
    u_op rk hF
    u_op rk hF
    u_op rk hF
    u_op rk hF
    u_op rk hF
    u_op rk hF
    u_op rk hF
    u_op rk hF
    u_skip rk hF
    u_skip rk hF
    u_op rk hF
    u_c stepG_region_end rk hF
    u_cond false rk hF
    u_c stepG_skip rk hF
    u_c stepG_ret' rk hF
    u_leave0 H.f_wait rk hF
    exact Goes.stop fun _ _ => rfl
  · obtain ⟨S, hS⟩ : ∃ S : Int, (v : Int) * KK = S := ⟨_, rfl⟩
    have a1 : S / 4294967296 = (v : Int) := by rw [← hS]; simp only [KK]; omega
    have b1 : bits .and .u64 S 2147483648 = 0 := by rw [← hS]; have := st_flag v 0 (by omega) (by omega); simpa [KK] using this
    have b2 : bits .and .u64 S 2147483647 = 0 := by rw [← hS]; have := st_waiters v 0 (by omega) (by omega); simpa [KK] using this
    have c1 : IntKind.i32.wrap (v : Int) = (v : Int) := by rw [IntKind.wrap_i32]; omega
    have w1x : IntKind.u64.wrap (S + 1) = S + 1 := by rw [IntKind.wrap_u64, ← hS]; simp only [KK]; omega
    have q3 : decide ((v : Int) < 0) = false := decide_eq_false (by omega)
    have q4 : decide (0 < (v : Int)) = true := decide_eq_true (by omega)
    have q5 : ((v : Int) == 0) = false := by simp; omega
    have q6 : decide ((v : Int) = 0) = false := decide_eq_false (by omega)
    rw [hS] at hw
    refine ⟨_, stepG_load_atomic (v := S) rfl rfl (by k_ne) rfl H.f_loadU64 (x_loadU64_n L) (x_loadU64_b L) (x_loadU64_x L) .u64 (x_loadU64_f L) rfl hw.cellSt, fun h0 => absurd h0 (by omega), fun _ => ⟨60, ?_⟩⟩
    clear hw
    walk_nrm
    u_op rk hF
    u_c stepG_region_end rk hF
    u_c stepG_ret' rk hF
    u_leave1 H.f_uLoad rk hF
    u_op rk hF
    u_c stepG_region_end rk hF
    u_c stepG_seq rk hF
    u_reg rk hF
    u_op rk hF
    u_op rk hF
    u_op rk hF
    u_op rk hF
    u_c stepG_region_end rk hF
    u_c stepG_seq rk hF
    u_reg rk hF
    u_op rk hF
    u_op rk hF
    u_op rk hF
    u_op rk hF
    u_c stepG_region_end rk hF
    u_c stepG_seq rk hF
    u_c stepG_seq rk hF
    u_reg rk hF
    u_op rk hF
    u_op rk hF
    u_c stepG_region_end rk hF
    u_cnd false rk hF
    u_c stepG_skip rk hF
    u_c stepG_seq rk hF
    u_reg rk hF
    u_op rk hF
    u_op rk hF
    u_op rk hF
    u_op rk hF
    u_op rk hF
    u_op rk hF
    u_call H.f_uCas (nm_uCas L) uCasFn rk hF
    u_c stepG_seq rk hF
    u_reg rk hF
    u_op rk hF
    u_c stepG_region_end rk hF
    u_c stepG_seq rk hF
    u_reg rk hF
    u_op rk hF
    u_op rk hF
    u_op rk hF
    u_op rk hF
    u_op rk hF
    refine Goes.stop (fun w2 h2 => ?_)
    replace hF := rk hF h2
    clear h2
    refine ⟨rfl, fun v' hv' hw => ⟨fun e => ?_, fun e => ?_⟩⟩
    · subst e
      rw [hS] at hw ⊢
      refine ⟨_, (stepG_cas_hit (v := S) (n := S + 1) rfl rfl (by k_ne) rfl H.f_casU64 (x_casU64_n L) (x_casU64_b L) (x_casU64_x L) .u64 (x_casU64_f L) rfl rfl rfl hw.cellSt (hw.thaw 0)).trans (by rfl), 70, ?_⟩
      replace hF : WgLive L.tWg Wg (w2.setCell (stA Wg) (.int .u64 (S + 1))) := ⟨_, _, hw.setSt _⟩
      clear hw
      walk_nrm
      u_op rk hF
      u_c stepG_region_end rk hF
      u_c stepG_ret' rk hF
      u_leave1 H.f_uCas rk hF
      u_c stepG_region_end rk hF
      u_cond true rk hF
      u_c stepG_seq rk hF
      u_c stepG_seq rk hF
      u_reg rk hF
      u_op rk hF
      u_op rk hF
      u_op rk hF
      u_op rk hF
      u_c stepG_region_end rk hF
      u_cond true rk hF
      u_reg rk hF
      u_op rk hF
      u_op rk hF
      u_op rk hF
      u_conv H.underlying_tPU32 H.room_tU32 (WgLive.cell1 hF).choose_spec rk hF
      refine Goes.stop (fun w7 h7 => ?_)
      replace hF := rk hF h7
      clear h7
      refine ⟨rfl, _, stepG_markAt .write (by simp) rfl rfl (by k_ne) rfl H.f_raceWrite (x_raceWrite_n L) (x_raceWrite_b L) (x_raceWrite_x L) (x_raceWrite_f L) (by simp [Act.eval, smA]), 40, ?_⟩
      walk_nrm
      u_c stepG_region_end rk hF
      u_c stepG_seq rk hF
      u_reg rk hF
      u_op rk hF
      u_c stepG_region_end rk hF
      u_c stepG_seq rk hF
      u_c stepG_seq rk hF
      u_reg rk hF
      u_op rk hF
      u_op rk hF
      u_op rk hF
      u_op rk hF
      u_skip rk hF
      u_op rk hF
      u_c stepG_region_end rk hF
      u_cond false rk hF
      u_c stepG_skip rk hF
      u_c stepG_seq rk hF
      u_reg rk hF
      u_op rk hF
      u_op rk hF
      u_op rk hF
      u_op rk hF
      refine Goes.stop (fun w3 h3 => ?_)
      replace hF := rk hF h3
      clear h3
      refine ⟨rfl, rfl, fun ⟨st, hw⟩ => stepG_semacquire_wait rfl rfl rfl H.f_semacquire (x_semacquire_n L) (x_semacquire_b L) (x_semacquire_x L) (x_semacquire_f L) (by simp [Act.eval, smA]) hw.cellSm, fun hf => ?_⟩
      refine ⟨_, (stepG_semacquire (n := 1) rfl rfl (by k_ne) rfl H.f_semacquire (x_semacquire_n L) (x_semacquire_b L) (x_semacquire_x L) (x_semacquire_f L) (by simp [Act.eval, smA]) hf.cellSm (by k_ne) (hf.thaw 1)).trans (by rfl), 30, ?_⟩
      replace hF : WgLive L.tWg Wg (w3.setCell (smA Wg) (.int .u32 0)) := ⟨_, _, hf.setSm 0⟩
      clear hf
      walk_nrm
      u_c stepG_region_end rk hF
      u_c stepG_seq rk hF
      u_reg rk hF
      u_op rk hF
      u_op rk hF
      u_op rk hF
      u_call H.f_uLoad (nm_uLoad L) uLoadFn rk hF
      u_c stepG_seq rk hF
      u_reg rk hF
      u_op rk hF
      u_c stepG_region_end rk hF
      u_c stepG_seq rk hF
      u_reg rk hF
      u_op rk hF
      u_op rk hF
      u_op rk hF
      refine Goes.stop (fun w4 h4 => ?_)
      replace hF := rk hF h4
      clear h4
      refine ⟨rfl, fun hw => ⟨_, stepG_load_atomic (v := 0) rfl rfl (by k_ne) rfl H.f_loadU64 (x_loadU64_n L) (x_loadU64_b L) (x_loadU64_x L) .u64 (x_loadU64_f L) rfl hw.cellSt, 30, ?_⟩⟩
      skip
      walk_nrm
      u_op rk hF
      u_c stepG_region_end rk hF
      u_c stepG_ret' rk hF
      u_leave1 H.f_uLoad rk hF
      u_op rk hF
      u_op rk hF
      u_c stepG_region_end rk hF
      u_c stepG_seq rk hF
      u_cond true rk hF
      u_c stepG_seq rk hF
      u_reg rk hF
      refine Goes.stop (fun w5 h5 => ?_)
      replace hF := rk hF h5
      clear h5
      refine ⟨rfl, _, stepG_mark0 .enable (by simp) rfl rfl (by k_ne) rfl H.f_enable (x_enable_n L) (x_enable_b L) (x_enable_x L) (x_enable_f L), 12, ?_⟩
      walk_nrm
      u_c stepG_region_end rk hF
      u_reg rk hF
      u_op rk hF
      u_conv H.underlying_tWgP H.room_tWg (WgLive.cell0 hF).choose_spec rk hF
      refine Goes.stop (fun w6 h6 => ?_)
      replace hF := rk hF h6
      clear h6
      refine ⟨rfl, _, stepG_markAt .acquire (by simp) rfl rfl (by k_ne) rfl H.f_acquire (x_acquire_n L) (x_acquire_b L) (x_acquire_x L) (x_acquire_f L) (by simp [Act.eval, stA]), 30, ?_⟩
      walk_nrm
      u_c stepG_region_end rk hF
      u_c stepG_seq rk hF
      u_c stepG_seq rk hF
      u_reg rk hF
      u_op rk hF
      u_c stepG_region_end rk hF
      u_cond false rk hF
      u_c stepG_skip rk hF
      u_c stepG_ret' rk hF
      u_leave0 H.f_wait rk hF
      exact Goes.stop fun _ _ => rfl
    · refine ⟨_, stepG_cas_miss (v := (v' : Int) * KK) (old := S) (n := S + 1) rfl rfl (by k_ne) rfl H.f_casU64 (x_casU64_n L) (x_casU64_b L) (x_casU64_x L) .u64 (x_casU64_f L) rfl rfl rfl hw.cellSt (hw.thaw 0) (by rw [← hS]; simp only [KK]; omega), 20, ?_⟩
      clear hw
      walk_nrm
      u_op rk hF
      u_c stepG_region_end rk hF
      u_c stepG_ret' rk hF
      u_leave1 H.f_uCas rk hF
      u_c stepG_region_end rk hF
      u_cond false rk hF
      u_c stepG_skip rk hF
      u_c stepG_inBlock rk hF
      u_c stepG_inLoop rk hF
      refine Goes.stop (fun w3 h3 => ?_)
      replace hF := rk hF h3
      exact ⟨_, rfl, by simp, by simp, hF⟩

set_option maxRecDepth 100000 in
/-- Wait, from its entry to the head of its loop. -/
theorem wait_start (H : WgLib P L) (w : World) (hF : WgLive L.tWg Wg w) :
    Goes P true (RL L.tWg Wg) DC0 (WKd P L.tWg Wg (WHd L Wg (b₀.at a₀ (.inRegion ops₀ (i₀ :: rest₀) :: k₀)) cs)) 3
      (G ((base L.wait).at ⟨#[.pointer (some ⟨Wg, 0, none⟩), undef, undef, undef, undef, undef, undef, undef, undef, undef, undef, undef, undef, undef, undef, undef, undef, undef, undef, undef, undef, undef, undef, undef, undef, undef, undef, undef, undef, undef, undef, undef, undef, undef, undef, undef, undef, undef, undef, undef, undef, undef, undef, undef, undef, undef, undef, undef, undef, undef, undef, undef, undef, undef, undef, undef, undef, undef, undef, undef, undef, undef, undef, undef, undef, undef, undef, undef, undef, undef, undef, undef, undef, undef, undef, undef, undef, undef, undef, undef, undef, undef, undef, undef], []⟩ [.code (body_wait L)]) (b₀.at a₀ (.inRegion ops₀ (i₀ :: rest₀) :: k₀) :: cs)) w := by
  lib_facts
  simp only [body_wait, waitFn, Option.getD_some]
  u_c stepG_seq rk hF
  u_cond true rk hF
  u_reg rk hF
  refine Goes.stop (fun w1 h1 => ?_)
  replace hF := rk hF h1
  clear h1
  refine ⟨rfl, _, stepG_mark0 .disable (by simp) rfl rfl (by k_ne) rfl H.f_disable (x_disable_n L) (x_disable_b L) (x_disable_x L) (x_disable_f L), 3, ?_⟩
  walk_nrm
  u_c stepG_region_end rk hF
  u_c stepG_block rk hF
  u_c stepG_loop rk hF
  exact Goes.stop (fun w2 h2 => ⟨_, rfl, by simp, by simp, rk hF h2⟩)
end
end Go.Proofs.Ytcobehkadhcjiaa
