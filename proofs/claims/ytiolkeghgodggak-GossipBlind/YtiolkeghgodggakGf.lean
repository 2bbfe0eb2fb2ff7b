/-
  keep.round, keep.LabelsOf, keep.gossiped.
-/
import Derived.Test.YtiolkeghgodggakGe
namespace Go.Proofs.Ytiolkeghgodggak
open Go.RowKit Go.Shelf Go.Sort
namespace Plain
/-- The first q pairs of a round. -/
def pairQ (q : Nat) : List (Nat × Nat) := (List.range q).map fun j => (j / 4, j % 4)
theorem pairQ_succ (q : Nat) : pairQ (q + 1) = pairQ q ++ [(q / 4, q % 4)] := by simp [pairQ, List.range_succ]
theorem pairQ_len (q : Nat) : (pairQ q).length = q := by simp [pairQ]
theorem pairQ_all : pairQ 16 = allP := by decide
theorem telL_app (a b : List (Nat × Nat)) : telL (a ++ b) = telL a ++ telL b := by simp [telL]
theorem telL_len (a : List (Nat × Nat)) : (telL a).length = a.length := by simp [telL]
theorem rndP_len (n : Nat) : (rndP n).length = n * 16 := by
  induction n with
  | zero => rfl
  | succ n ih => rw [rndP, List.length_append, ih, ← pairQ_all, pairQ_len]; omega
end Plain

set_option maxHeartbeats 4000000 in
set_option maxRecDepth 100000 in
theorem round_c (n : Nat) (hn : n ≤ 8) (w : World) :
    Calls Try.prog 16 #[.int .i64 (n : Int)] w fun e w' => ∃ q c, e = .returned (.slice q (n * 16) c) ∧ TI w w' (.slice q (n * 16) c) (Plain.telL (Plain.rndP n)) := by
  go_enter Try.func16, Try.ntmps16
  go_wp2
  go_loopg [3, 4, 5, 6] n (fun gg s3 s4 _ _ wx => ∃ (k : Nat) (q : Option Addr) (c : Nat), k ≤ n ∧ n - k ≤ gg ∧ s4 = .int .i64 k ∧ s3 = .slice q (k * 16) c ∧ Aside (TI w wx (.slice q (k * 16) c) (Plain.telL (Plain.rndP k))))
  case atStart => exact ⟨0, none, 0, Nat.zero_le _, by omega, rfl, rfl, (show Aside _ from TI.nil w)⟩
  case round =>
    obtain ⟨k, q, c, hk, hg, rfl, rfl, A⟩ := hrel
    by_cases hlt : k < n
    · have hltz : (k : Int) < (n : Int) := by omega
      have A0 := hid A.out
      clear A
      go_wp2
      go_loopg [3, 5, 6] 4 (fun gg s3 s5 _ wx => ∃ (i : Nat) (q : Option Addr) (c : Nat), i ≤ 4 ∧ 4 - i ≤ gg ∧ s5 = .int .i64 i ∧ s3 = .slice q (k * 16 + i * 4) c ∧ Aside (TI w wx (.slice q (k * 16 + i * 4) c) (Plain.telL (Plain.rndP k ++ Plain.pairQ (i * 4)))))
      case atStart => exact ⟨0, q, c, Nat.zero_le _, by omega, rfl, rfl, (show Aside _ from by rw [show Plain.pairQ (0 * 4) = [] from rfl, List.append_nil]; exact A0.out)⟩
      case round =>
        obtain ⟨i, qi, ci, hi, hgi, rfl, rfl, Ai⟩ := hrel
        clear A0
        by_cases hlti : i < 4
        · have hltiz : (i : Int) < 4 := by omega
          have A1 := hid Ai.out
          clear Ai
          go_wp2
          go_loopg [3, 6] 4 (fun gg s3 s6 wx => ∃ (j : Nat) (q : Option Addr) (c : Nat), j ≤ 4 ∧ 4 - j ≤ gg ∧ s6 = .int .i64 j ∧ s3 = .slice q (k * 16 + i * 4 + j) c ∧ Aside (TI w wx (.slice q (k * 16 + i * 4 + j) c) (Plain.telL (Plain.rndP k ++ Plain.pairQ (i * 4 + j)))))
          case atStart => exact ⟨0, qi, ci, Nat.zero_le _, by omega, rfl, rfl, (show Aside _ from A1.out)⟩
          case round =>
            obtain ⟨j, qj, cj, hj, hgj, rfl, rfl, Aj⟩ := hrel
            clear A1
            by_cases hltj : j < 4
            · have hltjz : (j : Int) < 4 := by omega
              have HL : (Plain.telL (Plain.rndP k ++ Plain.pairQ (i * 4 + j))).length = k * 16 + i * 4 + j := by rw [Plain.telL_len, List.length_append, Plain.rndP_len, Plain.pairQ_len]; omega
              have HS := hid (show Plain.telL (Plain.rndP k ++ Plain.pairQ (i * 4 + j)) ++ [⟨3, (i : Int), (j : Int), 0, 0, 0⟩] = Plain.telL (Plain.rndP k ++ Plain.pairQ (i * 4 + (j + 1))) by
                rw [← Nat.add_assoc, Plain.pairQ_succ, ← List.append_assoc, Plain.telL_app _ [_], show (i * 4 + j) / 4 = i by omega, show (i * 4 + j) % 4 = j by omega]
                rfl)
              obtain ⟨pn, cn, U, hrun, hU⟩ := Aj.out.snoc (by rw [HL]; omega) ⟨3, (i : Int), (j : Int), 0, 0, 0⟩
              rw [HL] at hrun hU
              rw [HS.out] at hU
              have RUN := hid hrun
              have HU := hid hU
              clear hrun hU Aj HL HS
              obtain ⟨len, hlen⟩ : ∃ len, len = k * 16 + i * 4 + j := ⟨_, rfl⟩
              rw [← hlen] at RUN HU ⊢
              have HLN := hid (show k * 16 + i * 4 + (j + 1) = len + 1 by omega)
              clear hlen
              go_wp2_with (first | (at_builtin; refine wpList_app _ _ 23 RUN.out (by rfl) (by rfl) (by rfl) (by rfl) (by rfl) ?_) | fail)
              go_wp2
              go_roundg (4 - (j + 1))
              case measure => omega
              case rel => exact ⟨j + 1, pn, cn, by omega, by omega, by go_num, by rw [HLN.out], (show Aside _ from by rw [HLN.out]; exact HU.out)⟩
            · have hltjz : ¬ (j : Int) < 4 := by omega
              have FJ := hid (show TI w wr (.slice qj (k * 16 + (i + 1) * 4) cj) (Plain.telL (Plain.rndP k ++ Plain.pairQ ((i + 1) * 4))) by
                have := Aj.out
                rw [show k * 16 + i * 4 + j = k * 16 + (i + 1) * 4 by omega, show i * 4 + j = (i + 1) * 4 by omega] at this
                exact this)
              have HE := hid (show k * 16 + i * 4 + j = k * 16 + (i + 1) * 4 by omega)
              clear Aj
              go_wp2
              go_roundg (4 - (i + 1))
              case measure => omega
              case rel => exact ⟨i + 1, qj, cj, by omega, by omega, by go_num, by rw [HE.out], (show Aside _ from FJ.out)⟩
        · have hltiz : ¬ (i : Int) < 4 := by omega
          have FI := hid (show TI w wr (.slice qi ((k + 1) * 16) ci) (Plain.telL (Plain.rndP (k + 1))) by
            have := Ai.out
            rw [show k * 16 + i * 4 = (k + 1) * 16 by omega, show i * 4 = 16 by omega, Plain.pairQ_all] at this
            exact this)
          have HE := hid (show k * 16 + i * 4 = (k + 1) * 16 by omega)
          clear Ai
          go_wp2
          go_roundg (n - (k + 1))
          case measure => omega
          case rel => exact ⟨k + 1, qi, ci, by omega, by omega, by go_num, by rw [HE.out], (show Aside _ from FI.out)⟩
    · have hltz : ¬ (k : Int) < (n : Int) := by omega
      obtain rfl : k = n := by omega
      have F := hid A.out
      clear A
      go_wp2
      go_ret
      exact ⟨_, _, rfl, F.out⟩

/-! ### Labels -/
namespace Plain
/-- Three labels of four branches. -/
def labsF (l : List Int) : List Int := (List.range 3).map fun i => if i < l.length then (l.getD i 0) % 16 else [15, 6, 9].getD i 0
theorem labsF_len (l : List Int) : (labsF l).length = 3 := by simp [labsF]
theorem labsF_at (l : List Int) {i : Nat} (h : i < 3) : (labsF l).getD i 0 = if i < l.length then (l.getD i 0) % 16 else [15, 6, 9].getD i 0 := by
  simp [labsF, List.getD_eq_getElem?_getD, h]
theorem labsF_in (l : List Int) : ∀ x, x ∈ labsF l → 0 ≤ x ∧ x < 16 := by
  intro x hx
  obtain ⟨i, hi, rfl⟩ := List.mem_map.1 hx
  have hi3 := List.mem_range.1 hi
  split
  · omega
  · have : i = 0 ∨ i = 1 ∨ i = 2 := by omega
    rcases this with rfl | rfl | rfl <;> decide
/-- The first k of them taken. -/
def labK (l : List Int) (k : Nat) (i : Nat) : Int := if i < k ∧ i < l.length then (l.getD i 0) % 16 else [15, 6, 9].getD i 0
end Plain
/-- Numbers in a row of their own, whatever its values. -/
def rowV (f : Nat → Int) (j : Nat) : Value := .int .i64 (f j)

set_option maxHeartbeats 2000000 in
set_option maxRecDepth 100000 in
theorem labels_c (p : Option Addr) (n cap : Nat) (l : List Int) (_hbig : n ≤ 9223372036854775807) (hn : l.length = n) (hwf : ∀ x, x ∈ l → -9223372036854775808 ≤ x ∧ x ≤ 9223372036854775807) (w : World) (hp : Nums w p l) :
    Calls Try.prog 13 #[.slice p n cap] w fun e w' => e = .returned (.slice (some ⟨w.heap.size, 0, none⟩) 3 3) ∧ w'.rowIs w.heap.size 3 3 (rowV (Plain.labAt (Plain.labsF l))) ∧ Below w.heap.size w w' := by
  have HP := hid hp
  have HN := hid hn
  have HW := hid hwf
  have R0 := hid (show (w.alloc (.cells #[.int .i64 15, .int .i64 6, .int .i64 9] 3)).rowIs w.heap.size 3 3 (rowV (Plain.labK l 0)) by
    refine World.rowIs_alloc _ _ 3 _ fun i hi => ?_
    have hi4 : i < 3 := hi
    have : i = 0 ∨ i = 1 ∨ i = 2 := by omega
    rcases this with rfl | rfl | rfl <;> simp [rowV, Plain.labK])
  have B0 := hid (show Below w.heap.size w (w.alloc (.cells #[.int .i64 15, .int .i64 6, .int .i64 9] 3)) from (Below.refl _ _).alloc (Nat.le_refl _) _)
  have HF := hid (fun (wx : World) (k : Nat) (hk : 3 ≤ k ∨ n ≤ k) (h : wx.rowIs w.heap.size 3 3 (rowV (Plain.labK l k))) => show wx.rowIs w.heap.size 3 3 (rowV (Plain.labAt (Plain.labsF l))) from h.congr fun j hj => by
    unfold rowV Plain.labK Plain.labAt
    rw [Plain.labsF_at l hj]
    by_cases hjl : j < l.length
    · rw [if_pos ⟨by omega, hjl⟩, if_pos hjl]
    · rw [if_neg (fun x => hjl x.2), if_neg hjl])
  clear hp hn hwf
  go_enter Try.func13, Try.ntmps13
  go_wp2
  obtain ⟨W1, hW1⟩ : ∃ W1, W1 = w.alloc (.cells #[.int .i64 15, .int .i64 6, .int .i64 9] 3) := ⟨_, rfl⟩
  rw [← hW1] at R0 B0 ⊢
  clear hW1
  obtain ⟨B, hB⟩ : ∃ B, B = w.heap.size := ⟨_, rfl⟩
  rw [← hB] at R0 B0 HF ⊢
  have HBB := hid hB
  clear hB
  go_loopg [4] 3 (fun gg s4 wx => ∃ k : Nat, k ≤ 3 ∧ k ≤ n ∧ 3 - k ≤ gg ∧ s4 = .int .i64 k ∧ Aside (wx.rowIs B 3 3 (rowV (Plain.labK l k))) ∧ Aside (Below B w wx))
  case atStart => exact ⟨0, Nat.zero_le _, Nat.zero_le _, by omega, rfl, (show Aside _ from R0.out), (show Aside _ from B0.out)⟩
  case round =>
    obtain ⟨k, hk, hkn, hg, rfl, RK, BK⟩ := hrel
    clear R0 B0
    by_cases hlt : k < 3
    · have hltz : (k : Int) < 3 := by omega
      by_cases hltn : k < n
      · have hltnz : (k : Int) < (n : Int) := by omega
        have hkl : k < l.length := by rw [HN.out]; exact hltn
        obtain ⟨b, off, rfl, hb, hc⟩ := HP.out (by omega)
        rw [← HBB.out] at hb
        have c0 := (BK.out.cell (p := ⟨b, off + k, none⟩) hb).trans (hc k hkl)
        have hin := HW.out _ (getD_mem l 0 hkl)
        have y0 := RK.out.cell hlt
        have z0 := RK.out.frozen k
        unfold rowV at y0
        have R2 := hid (RK.out.set k (.int .i64 (l.getD k 0 % 16)))
        have HK := hid (show ∀ j, j < 3 → (if j = k then Value.int .i64 (l.getD k 0 % 16) else rowV (Plain.labK l k) j) = rowV (Plain.labK l (k + 1)) j from fun j hj => by
          by_cases e : j = k
          · subst e
            rw [if_pos rfl]
            unfold rowV Plain.labK
            rw [if_pos ⟨by omega, hkl⟩]
          · rw [if_neg e]
            unfold rowV Plain.labK
            by_cases h1 : j < k ∧ j < l.length
            · rw [if_pos h1, if_pos ⟨by omega, h1.2⟩]
            · rw [if_neg h1, if_neg (fun x => h1 ⟨by omega, x.2⟩)])
        generalize l.getD k 0 = x at c0 hin R2 HK
        have K0 := fun W => picked_any x 16 hin.1 hin.2 (by omega) (by omega) W
        clear hin hc
        generalize x % 16 = xm at *
        have hne : ¬ b = B := by omega
        go_wp2_with fail
        refine (K0 _).mono ?_
        rintro e wx ⟨rfl, hx⟩
        have hy := hx.symm
        clear hx K0
        subst hy
        go_wp2
        go_roundg (3 - (k + 1))
        case measure => omega
        case rel => exact ⟨k + 1, by omega, by omega, by omega, by go_num, (show Aside _ from R2.out.congr HK.out), (show Aside _ from BK.out.setCell (p := ⟨B, k, none⟩) (Nat.le_refl B) _)⟩
      · have hltnz : ¬ (k : Int) < (n : Int) := by omega
        have F := hid (HF.out wr k (.inr (by omega)) RK.out)
        have FB := hid BK.out
        clear RK BK
        go_wp2
        go_ret
        exact ⟨by rw [← HBB.out]; rfl, by rw [← HBB.out]; exact F.out, by rw [← HBB.out]; exact FB.out⟩
    · have hltz : ¬ (k : Int) < 3 := by omega
      have F := hid (HF.out wr k (.inl (by omega)) RK.out)
      have FB := hid BK.out
      clear RK BK
      go_wp2
      go_ret
      exact ⟨by rw [← HBB.out]; rfl, by rw [← HBB.out]; exact F.out, by rw [← HBB.out]; exact FB.out⟩

/-! ### What turns come to -/
def encI : Enc Int := ⟨1, fun x => [.int .i64 x], fun _ => rfl, fun a u hu => by
  simp only [List.mem_cons, List.not_mem_nil, or_false] at hu
  subst hu; rfl, by decide⟩
theorem encI_at (l : List Int) {j : Nat} (h : j < l.length) : (encI.vals l)[j]? = some (.int .i64 (l.getD j 0)) := by
  have := encI.vals_at 0 l j 0 h (by decide)
  rw [show j * encI.n + 0 = j from by show j * 1 + 0 = j; omega] at this
  exact this
theorem nums_holds {w : World} {p : Option Addr} {l : List Int} (h : Nums w p l) : encI.Holds w p l := fun h0 => by
  obtain ⟨b, off, e, hb, hc⟩ := h h0
  refine ⟨b, off, e, hb, fun j u hu => ?_⟩
  have hj : j < l.length := by
    rcases Nat.lt_or_ge j l.length with h1 | h1
    · exact h1
    · rw [List.getElem?_eq_none (by rw [encI.vals_len]; show l.length * 1 ≤ j; omega)] at hu; cases hu
  rw [encI_at l hj] at hu
  rw [hc j hj, hu]
theorem holds_nums {w : World} {p : Option Addr} {l : List Int} (h : encI.Holds w p l) : Nums w p l := fun h0 => by
  obtain ⟨b, off, e, hb, hc⟩ := h h0
  exact ⟨b, off, e, hb, fun j hj => hc j _ (encI_at l hj)⟩
/-- A copy of numbers. -/
theorem copy_nums {w : World} {p : Option Addr} {c m : Nat} {l : List Int} (h : Nums w p l) (hm : l.length = m) (hnil : p = none → c = 0) (hb : m ≤ 1000) :
    ∃ p' c' U, (Builtin.append_ #[22, 22] 22 #[.slice none 0 0, .slice p m c]).run Try.prog w = .ok (.slice p' m c') U ∧ Nums U p' l ∧ Below w.heap.size w U := by
  obtain ⟨j0, ji, jz0, jz1, jz2⟩ := info_parts Try.infoInt
  obtain ⟨v', U, h1, h2, h3⟩ := encI.app (B := w.heap.size) (n := 0) (l := []) (c := c) Try.underlying22 ji jz0 jz1 jz2 rfl (World.ownsRow_nil _ _ _ _) (nums_holds h) hm hnil (by omega) (by omega) (Nat.le_refl _)
  obtain ⟨p', c', rfl, hh, _⟩ := encI.owns h2 (by rw [List.nil_append, hm]; omega)
  rw [Nat.zero_add] at h1
  exact ⟨p', c', U, h1, holds_nums hh, (Below.refl _ _).grown h3 (Nat.le_refl _) (fun j hj => by simp [Value.ownBlock] at hj)⟩
theorem copy_turns {w : World} {p : Option Addr} {c m : Nat} {l : List Plain.Tu} (h : encT.Holds w p l) (hm : l.length = m) (hnil : p = none → c = 0) (hb : m ≤ 1000) :
    ∃ p' c' U, (Builtin.append_ #[23, 23] 23 #[.slice none 0 0, .slice p m c]).run Try.prog w = .ok (.slice p' m c') U ∧ TI w U (.slice p' m c') l := by
  obtain ⟨p', c', U, h1, h2⟩ := (TI.nil w).app (c := c) h hm hnil (by show 0 + m ≤ 1000; omega)
  have e : ([] : List Plain.Tu).length + m = m := by show 0 + m = m; omega
  rw [e] at h1 h2
  exact ⟨p', c', U, h1, h2⟩
namespace Plain
theorem goE_four {L : List Int} {l : List Tu} (hL : ∀ x, x ∈ L → 0 ≤ x ∧ x < 16) (h4 : L.length ≤ 4) (hl : l.length ≤ 300) : goE 4 L l = 0 := by
  have e : L.any (fun s => decide (s < 0 ∨ (2 : Int) ^ (4 : Int).toNat ≤ s)) = false := by
    rw [List.any_eq_false]
    intro x hx h
    have h1 := hL x hx
    have h2 : (2 : Int) ^ (4 : Int).toNat = 16 := by decide
    rw [h2] at h
    simp only [decide_eq_true_eq] at h
    omega
  unfold goE
  rw [if_neg (by omega), e, if_neg (by decide), if_neg (by omega)]
end Plain

/-- What turns come to. -/
def GosP (L : List Int) (l : List Plain.Tu) (m N : Nat) (w : World) (e : Ending) (w' : World) : Prop :=
  ∃ a b c d, e = .returned (.tuple #[.slice a N b, .slice c 4 d, .bool true]) ∧ Nums w' a (Plain.cz (Plain.goF 4 L Plain.Stt.nil l)) ∧ Stores w' c 4 m (Plain.stF 4 L Plain.Stt.nil l) ∧ Below w.heap.size w w'

set_option maxHeartbeats 4000000 in
set_option maxRecDepth 100000 in
theorem gossiped_c (p : Option Addr) (m lc : Nat) (q : Option Addr) (N tc : Nat) (L : List Int) (l : List Plain.Tu) (hm4 : m ≤ 4) (hN3 : N ≤ 300) (hm : L.length = m) (hN : l.length = N) (hL : ∀ x, x ∈ L → 0 ≤ x ∧ x < 16) (w : World) (NL : Nums w p L) (hpn : p = none → lc = 0) (NT : encT.Holds w q l) (hqn : q = none → tc = 0) :
    Calls Try.prog 15 #[.slice p m lc, .slice q N tc] w fun e w' => GosP L l m N w e w' := by
  obtain ⟨p1, c1, U1, r1, n1, b1⟩ := copy_nums (c := lc) NL hm hpn (by omega)
  obtain ⟨p2, c2, U2, r2, t2⟩ := copy_turns (c := tc) (NT.grow b1) hN hqn (by omega)
  obtain ⟨p2', c2', e2, _, hh2⟩ := t2.form
  have hE := Plain.goE_four (l := l) hL (by omega) (by omega)
  have K := play_c p1 m c1 p2 N c2 4 L l (by omega) (by omega) hm hN (fun x hx => by have := hL x hx; omega) U2 (n1.grow t2.be) (by
    rw [Value.slice.injEq] at e2
    obtain ⟨rfl, _, _⟩ := e2
    exact hh2)
  have R1 := hid r1
  have R2 := hid r2
  have B2 := hid (b1.trans (t2.be.mono b1.size))
  have e3 : Plain.codesV 4 L l = Plain.goF 4 L Plain.Stt.nil l := by unfold Plain.codesV; rw [hE]; rfl
  have e4 : Plain.cntV 4 L l = 4 := by unfold Plain.cntV; rw [hE]; rfl
  have HP := hid (fun e w' (h : PlayP 4 L l U2 e w') => show ∃ a b c d, e = .returned (.tuple #[.slice a N b, .slice c 4 d, .int .i64 0]) ∧ Nums w' a (Plain.cz (Plain.goF 4 L Plain.Stt.nil l)) ∧ Stores w' c 4 m (Plain.stF 4 L Plain.Stt.nil l) ∧ Below U2.heap.size U2 w' by
    obtain ⟨a, b, c, d, h1, h2, h3, h4⟩ := h
    rw [e3, e4, hE, Plain.goF_len, hN] at h1
    rw [e3] at h2
    rw [e4, hm] at h3
    exact ⟨a, b, c, d, h1, h2, h3, h4⟩)
  clear r1 r2 n1 b1 t2 e2 hh2 hE e3 e4 NL NT hL hpn hqn hm hN
  have hNN : ((N : Int) != (N : Int)) = false := by simp
  have hmm : ((m : Int) != (m : Int)) = false := by simp
  go_enter Try.func15, Try.ntmps15
  go_wp2_with (first | (at_builtin; refine wpList_app _ _ 22 R1.out (by rfl) (by rfl) (by rfl) (by rfl) (by rfl) ?_) | (at_builtin; refine wpList_app _ _ 23 R2.out (by rfl) (by rfl) (by rfl) (by rfl) (by rfl) ?_) | fail)
  refine K.mono ?_
  intro e w3 h3
  obtain ⟨a, b, c, d, rfl, hn3, hs3, hb3⟩ := HP.out _ _ h3
  have N3 := hid hn3
  have S3 := hid hs3
  have B3 := hid (B2.out.trans (hb3.mono B2.out.size))
  clear hn3 hs3 hb3 K HP R1 R2 B2 h3
  go_wp2
  go_loopg [10] 4 (fun gg s10 wx => ∃ k : Nat, k ≤ 4 ∧ 4 - k ≤ gg ∧ s10 = .int .i64 k ∧ wx = w3)
  case atStart => exact ⟨0, Nat.zero_le _, by omega, rfl, rfl⟩
  case round =>
    obtain ⟨k, hk, hg, rfl, hw⟩ := hrel
    have hy := hw.symm
    clear hw
    subst hy
    by_cases hlt : k < 4
    · have hltz : (k : Int) < 4 := by omega
      obtain ⟨bb, off, rfl, _, hr⟩ := S3.out (by omega)
      obtain ⟨pp, cc, c0, _⟩ := hr k hlt
      clear hr
      go_wp2
      go_roundg (4 - (k + 1))
      case measure => omega
      case rel => exact ⟨k + 1, by omega, by omega, by go_num, rfl⟩
    · have hltz : ¬ (k : Int) < 4 := by omega
      go_wp2
      go_ret3
      exact (show GosP L l m N w _ _ from ⟨_, _, _, _, rfl, N3.out, S3.out, B3.out⟩)
end Go.Proofs.Ytiolkeghgodggak
