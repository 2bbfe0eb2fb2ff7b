/-
  Calls: calls of pleas, in memory.
-/
import Derived.Test.YtiolkeghgodggajV0
import Derived.Test.YtiolkeghgodggajXc
import Derived.Test.YtiolkeghgodggajPk
import Derived.Test.YtiolkeghgodggajAp
import Derived.Deep.RegionHeld3
import Derived.Deep.DeepCutAuto
import Derived.Deep.CutBlock
import Derived.Carry
namespace Go.Proofs.Ytiolkeghgodggaj.Bo
open Go.RowKit Go.Shelf Go.Sort

theorem Try.infoCa : (Try.prog.info? 52).map (fun i => (i.zero, i.size, i.bytes)) = some (some (.agg #[.int .i64 0, .int .i64 0, .int .i64 0]), 3, 24) := by kernel_rfl
theorem _root_.Go.Proofs.Ytiolkeghgodggaj.Enc.snoc1 {α : Type} {E : Enc α} {W : World} {B n t e bytes : Nat} {i : TypeInfo} {z v : Value} {l : List α} (ht : Try.prog.underlying t = some (.slice e)) (hi : Try.prog.info? e = some i) (hz : i.zero = some z) (hsize : i.size = E.n) (hby : i.bytes = bytes) (hzs : z.cells.size = E.n)
    (hown : W.ownsRow B e E.n v n (E.vals l)) (hn : l.length = n) (hb : n ≤ 1000) (hbytes : (n + 1) * bytes ≤ 140737488355328) (hB : B ≤ W.heap.size) (a : α) :
    ∃ p c U, (Builtin.append_ #[t, t] t #[v, .slice (some ⟨W.heap.size, 0, none⟩) 1 1]).run Try.prog (W.alloc (.cells (E.enc a).toArray e)) = .ok (.slice p (n + 1) c) U ∧ U.ownsRow B e E.n (.slice p (n + 1) c) (n + 1) (E.vals (l ++ [a])) ∧
      (W.alloc (.cells (E.enc a).toArray e)).grownBy U v.ownBlock := by
  have bel : Below W.heap.size W (W.alloc (.cells (E.enc a).toArray e)) := (Below.refl _ _).alloc (Nat.le_refl _) _
  obtain ⟨v', U, h1, h2, h3⟩ := E.app (m := 1) (c := 1) (q := [a]) ht hi hz hsize hby hzs (owns_grow hown bel) (E.one_holds W a e) rfl (fun e => by cases e) (by omega) hbytes (Nat.le_trans hB bel.size)
  obtain ⟨p, c, rfl, _⟩ := E.owns h2 (by rw [List.length_append, hn]; rfl)
  exact ⟨p, c, U, h1, h2, h3⟩
/-- Calls in a row of the call's own. -/
structure CI (w W : World) (v : Value) (cs : List Plain.Ca) : Prop where
  ow : W.ownsRow w.heap.size 52 3 v cs.length (encC.vals cs)
  be : Below w.heap.size w W
namespace CI
variable {w W W' : World} {v : Value} {cs : List Plain.Ca}
theorem nil (w : World) : CI w w (.slice none 0 0) [] := ⟨World.ownsRow_nil _ _ _ _, Below.refl _ _⟩
theorem grow (h : CI w W v cs) (g : Below W.heap.size W W') : CI w W' v cs := ⟨owns_grow h.ow g, h.be.trans (g.mono h.be.size)⟩
theorem snoc (h : CI w W v cs) (hb : cs.length ≤ 1000) (y : Plain.Ca) :
    ∃ p c U, (Builtin.append_ #[39, 39] 39 #[v, .slice (some ⟨W.heap.size, 0, none⟩) 1 1]).run Try.prog (W.alloc (boxC y)) = .ok (.slice p (cs.length + 1) c) U ∧ CI w U (.slice p (cs.length + 1) c) (cs ++ [y]) := by
  obtain ⟨j0, ji, jz0, jz1, jz2⟩ := info_parts Try.infoCa
  obtain ⟨p, c, U, h1, h2, h3⟩ := Enc.snoc1 (E := encC) Try.underlying39 ji jz0 jz1 jz2 rfl h.ow rfl hb (by omega) h.be.size y
  have bel : Below W.heap.size W (W.alloc (boxC y)) := (Below.refl _ _).alloc (Nat.le_refl _) _
  have hlen : (cs ++ [y]).length = cs.length + 1 := by simp
  exact ⟨p, c, U, h1, ⟨by rw [hlen]; exact h2, (h.be.trans (bel.mono h.be.size)).grown h3 (Nat.le_trans h.be.size bel.size) (fun j hj => (h.ow.lt j hj).1)⟩⟩
theorem form (h : CI w W v cs) : ∃ p c, v = .slice p cs.length c ∧ (p = none → c = 0) ∧ encC.Holds W p cs := by
  obtain ⟨p, c, e, hh, hn, _⟩ := encC.owns h.ow rfl
  exact ⟨p, c, e, hn, hh⟩
end CI

set_option maxHeartbeats 8000000 in
set_option maxRecDepth 100000 in
theorem calls_c (p : Option Addr) (n cap : Nat) (l : List Plain.Ca) (hbig : n ≤ 9223372036854775807) (w : World) (hn : l.length = n) (hp : encC.Holds w p l) (hr : ∀ j, j < l.length → InC (l.getD j default)) :
    Calls Try.prog 17 #[.slice p n cap, .int .i64 100] w fun e w' => ∃ q c, e = .returned (.slice q (Plain.callsF l).length c) ∧ CI w w' (.slice q (Plain.callsF l).length c) (Plain.callsF l) := by
  have HP := hid hp
  have HN := hid hn
  have HR := hid hr
  clear hp hn hr
  go_enter Try.func17, Try.ntmps17
  go_wp2
  go_loopg [5, 6, 7] n (fun gg s5 s6 _ wx => ∃ (k : Nat) (q : Option Addr) (c : Nat), k ≤ n ∧ k ≤ 100 ∧ n - k ≤ gg ∧ s6 = .int .i64 k ∧ s5 = .slice q k c ∧ Aside (CI w wx (.slice q k c) (Plain.callsF (l.take k))) ∧ Aside ((Plain.callsF (l.take k)).length = k))
  case atStart => exact ⟨0, none, 0, Nat.zero_le _, Nat.zero_le _, by omega, rfl, rfl, (show Aside _ from CI.nil w), (show Aside _ from rfl)⟩
  case round =>
    obtain ⟨k, q, c, hkk, hk100, hg, rfl, rfl, A, AL⟩ := hrel
    by_cases hlt : k < n
    · have hltz : (k : Int) < (n : Int) := by omega
      by_cases hlt6 : k < 100
      · have hlt6z : (k : Int) < 100 := by omega
        have hll : k < l.length := by rw [HN.out]; exact hlt
        have HI := hid A.out
        have HL := hid AL.out
        clear A AL
        have HMv := HP.out.grow (show Below w.heap.size w wr from HI.out.be)
        obtain ⟨b, off, rfl, hb, hc⟩ := holdsC HMv (by omega)
        obtain ⟨c0, c1, c2⟩ := hc k hll
        have hIn := HR.out k hll
        have ST := hid (Plain.callsF_step l k hll hlt6)
        clear hc HMv
        generalize l.getD k default = r at c0 c1 c2 ST hIn
        generalize Plain.callsF (l.take k) = cs at HI HL ST
        obtain ⟨mk, mw, mc⟩ := r
        dsimp only at c0 c1 c2 hIn
        have K0 := fun W => picked_any mk 6 hIn.k.1 hIn.k.2 (by omega) (by omega) W
        have K1 := fun W => picked_any mc 40 hIn.c.1 hIn.c.2 (by omega) (by omega) W
        have K2 := fun W => picked_any mw 3 hIn.w.1 hIn.w.2 (by omega) (by omega) W
        have K3 := fun W => picked_any mc 60 hIn.c.1 hIn.c.2 (by omega) (by omega) W
        clear hIn
        obtain ⟨y, hy⟩ : ∃ y, y = Plain.callOf ⟨mk, mw, mc⟩ := ⟨_, rfl⟩
        rw [← hy] at ST
        unfold Plain.callOf at hy
        dsimp only at hy
        have h40 : 0 ≤ mc % 40 ∧ mc % 40 < 40 := by omega
        have hw1 : IntKind.i64.wrap (1 + mc % 40) = 1 + mc % 40 := by rw [IntKind.wrap_i64]; omega
        have hk6 : 0 ≤ mk % 6 ∧ mk % 6 < 6 := by omega
        generalize mk % 6 = kd at *
        generalize mc % 40 = x40 at *
        generalize mw % 3 = x3 at *
        generalize mc % 60 = x60 at *
        have HY := hid hy
        clear hy
        have d0 : (wr.alloc (.cells #[.int .i64 3, .int .i64 0, .int .i64 0] 52)).cell? ⟨b, off + k * 3, none⟩ = some (.int .i64 mk) := by rw [World.cell?_alloc_lt _ _ _ hb]; exact c0
        go_wp2_with fail
        refine (K0 _).mono ?_
        rintro e wx ⟨rfl, hx⟩
        have hy := hx.symm
        clear hx K0 d0
        subst hy
        go_upto_block 2 with fail
        go_cut [7] (fun s7 wx => s7 = .pointer (some ⟨wr.heap.size, 0, none⟩) ∧ Aside (∃ q, wx = (wr.alloc (boxC y)).drewN q))
        case first =>
          have e1 : (wr.alloc (.cells #[.int .i64 3, .int .i64 0, .int .i64 0] 52)).cell? ⟨b, off + k * 3 + 1, none⟩ = some (.int .i64 mw) := by rw [World.cell?_alloc_lt _ _ _ hb]; exact c1
          have e2 : (wr.alloc (.cells #[.int .i64 3, .int .i64 0, .int .i64 0] 52)).cell? ⟨b, off + k * 3 + 2, none⟩ = some (.int .i64 mc) := by rw [World.cell?_alloc_lt _ _ _ hb]; exact c2
          by_cases k0 : kd = 0
          · have EY := hid (show y = ⟨1, 0, 1 + x40⟩ by rw [HY.out, if_pos k0])
            subst k0
            clear HY K2 K3
            go_wp2_with fail
            refine (K1 _).mono ?_
            rintro e wx ⟨rfl, hx⟩
            have hy := hx.symm
            clear hx K1 e1 e2
            subst hy
            go_wp2
            go_meet
            case rel => exact ⟨rfl, (show Aside _ from ⟨0, by rw [EY.out]; rfl⟩)⟩
          by_cases k3 : kd ≤ 3
          · have EY := hid (show y = ⟨2, x3, x60⟩ by rw [HY.out, if_neg k0, if_pos k3])
            have hne : ¬ b = wr.heap.size := by omega
            have hne' : ¬ wr.heap.size = b := by omega
            have hk123 : kd = 1 ∨ kd = 2 ∨ kd = 3 := by omega
            clear HY K1 k0 k3 hk6
            rcases hk123 with rfl | rfl | rfl
            all_goals
              go_wp2
              go_region_held3 (fun w' => w'.cell? ⟨b, off + k * 3 + 1, none⟩ = some (.int .i64 mw) ∧ w'.cell? ⟨b, off + k * 3 + 2, none⟩ = some (.int .i64 mc)) (go_keep)
                (first | (go_at_call_of 10 (Value.int .i64 mw); refine (K2 _).mono ?_; rintro e w' ⟨rfl, rfl⟩) | (go_at_call_of 10 (Value.int .i64 mc); refine (K3 _).mono ?_; rintro e w' ⟨rfl, rfl⟩))
              all_goals
                go_wp2
                go_meet
                case rel => exact ⟨rfl, (show Aside _ from ⟨1, by rw [EY.out]; rfl⟩)⟩
          · have EY := hid (show y = ⟨3, 0, 0⟩ by rw [HY.out, if_neg k0, if_neg k3])
            have g0 : (kd == 0) = false := by simpa using k0
            have g1 : (kd == 1) = false := by simp; omega
            have g2 : (kd == 2) = false := by simp; omega
            have g3 : (kd == 3) = false := by simp; omega
            clear HY K1 K2 K3 k0 k3 hk6
            go_wp2
            go_meet
            case rel => exact ⟨rfl, (show Aside _ from ⟨0, by rw [EY.out]; rfl⟩)⟩
        case rest =>
          obtain ⟨rfl, hcut2⟩ := hcut
          obtain ⟨q5, hq5⟩ := hcut2.out
          have I5 := hid (show CI w wc (.slice q k c) cs by rw [hq5]; exact HI.out.grow (below_drewN ((Below.refl _ _).alloc (Nat.le_refl _) _) q5))
          have d0 : wc.cell? ⟨wr.heap.size, 0, none⟩ = some (.int .i64 y.kind) := by rw [hq5]; show (wr.alloc _).cell? _ = _; rw [World.cell?_alloc_at _ _ _ _ rfl]; rfl
          have d1 : wc.cell? ⟨wr.heap.size, 1, none⟩ = some (.int .i64 y.who) := by rw [hq5]; show (wr.alloc _).cell? _ = _; rw [World.cell?_alloc_at _ _ _ _ rfl]; rfl
          have d2 : wc.cell? ⟨wr.heap.size, 2, none⟩ = some (.int .i64 y.count) := by rw [hq5]; show (wr.alloc _).cell? _ = _; rw [World.cell?_alloc_at _ _ _ _ rfl]; rfl
          obtain ⟨pn, cn, U, hrun, hU⟩ := I5.out.snoc (by have := HL.out; omega) y
          rw [HL.out] at hrun hU
          have RUN := hid hrun
          have HU := hid hU
          clear hrun hU I5 hq5 hcut2 HI HY K1 K2 K3 c0 c1 c2
          go_wp2_with (first | (at_builtin; refine wpList_app _ _ 39 RUN.out (by rfl) (by rfl) (by rfl) (by rfl) (by rfl) ?_) | fail)
          go_wp2
          go_roundg (n - (k + 1))
          case measure => omega
          case rel =>
            refine ⟨k + 1, pn, cn, by omega, by omega, by omega, by go_num, rfl, (show Aside _ from ?_), (show Aside _ from ?_)⟩
            · rw [ST.out]; exact HU.out
            · rw [ST.out, List.length_append, HL.out]; rfl
      · have hlt6z : ¬ (k : Int) < 100 := by omega
        have hfin := Plain.callsF_take l k (.inr (by omega))
        have hA := A.out
        have hL := AL.out
        rw [hfin] at hA hL
        have HX := hid (show ∃ q' c', Ending.returned (Value.slice q k c) = .returned (.slice q' (Plain.callsF l).length c') ∧ CI w wr (.slice q' (Plain.callsF l).length c') (Plain.callsF l) from ⟨q, c, by rw [hL], by rw [hL]; exact hA⟩)
        clear A AL hA hL hfin
        go_wp2
        go_ret
        exact HX.out
    · have hltz : ¬ (k : Int) < (n : Int) := by omega
      have hfin := Plain.callsF_take l k (.inl (by rw [HN.out]; omega))
      have hA := A.out
      have hL := AL.out
      rw [hfin] at hA hL
      have HX := hid (show ∃ q' c', Ending.returned (Value.slice q k c) = .returned (.slice q' (Plain.callsF l).length c') ∧ CI w wr (.slice q' (Plain.callsF l).length c') (Plain.callsF l) from ⟨q, c, by rw [hL], by rw [hL]; exact hA⟩)
      clear A AL hA hL hfin
      go_wp2
      go_ret
      exact HX.out
end Go.Proofs.Ytiolkeghgodggaj.Bo
