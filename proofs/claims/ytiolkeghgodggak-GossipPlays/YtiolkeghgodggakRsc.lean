/-
  The document's GossipPlayed.
-/
import Derived.Test.YtiolkeghgodggakRsd
import Derived.Test.YtiolkeghgodggakRs9
import Derived.Test.YtiolkeghgodggakG1
namespace Go.Proofs.Ytiolkeghgodggak
open Go.RowKit Go.Shelf Go.Sort

theorem ShI.grown {B S HO IO : Nat} {hb ib : Nat → Nat} {w0 w U : World} {lp : Option Addr} {lc n m hc ic : Nat} {f : Plain.Shv} (h : ShI B S HO IO hb ib w0 w lp lc n m hc ic f) {C e k : Nat} {v : Value} {xs : List Value} (o : w.ownsRow C e 1 v k xs)
    (n1 : 78 ≠ e) (n2 : 79 ≠ e) (n3 : 80 ≠ e) (n4 : 84 ≠ e) (n5 : 83 ≠ e) (hBC : B ≤ C) (hBw : B ≤ w.heap.size) (g : w.grownBy U v.ownBlock) : ShI B S HO IO hb ib w0 U lp lc n m hc ic f :=
  ⟨grow_bx h.bx o n1 g, by obtain ⟨M, q, r, x⟩ := h.ho; exact ⟨M, q, grow_bx r o n2 g, x⟩, by obtain ⟨M, q, r, x⟩ := h.io; exact ⟨M, q, grow_bx r o n3 g, x⟩,
    fun i hi => by obtain ⟨F, r, x⟩ := h.hr i hi; exact ⟨F, grow_bx r o n4 g, x⟩, fun i hi => by obtain ⟨F, r, x⟩ := h.ir i hi; exact ⟨F, grow_bx r o n5 g, x⟩, h.hd, h.di, h.hg, h.ig, h.be.grown g hBw (fun j hj => Nat.le_trans hBC (o.lt j hj).1)⟩
theorem owns_other {w U : World} {C1 C2 e1 e2 s1 s2 k1 k2 : Nat} {v1 v2 : Value} {x1 x2 : List Value} (o1 : w.ownsRow C1 e1 s1 v1 k1 x1) (o2 : w.ownsRow C2 e2 s2 v2 k2 x2) (hne : e1 ≠ e2) (g : w.grownBy U v2.ownBlock) : U.ownsRow C1 e1 s1 v1 k1 x1 :=
  owns_block o1 fun q e => g.block q (o1.lt q e).2 (fun e' => owns_apart o1 o2 hne e e'.symm)
theorem owns_un {B S HO IO : Nat} {hb ib : Nat → Nat} {w0 w w' : World} {lp : Option Addr} {lc n m hc ic : Nat} {f : Plain.Shv} {C N e s : Nat} {v : Value} {xs : List Value} (I : ShI B S HO IO hb ib w0 w lp lc n m hc ic f) (o : w.ownsRow C e s v N xs) (n4 : 84 ≠ e) (n5 : 83 ≠ e) (u : Un (isS hb ib n) w w') : w'.ownsRow C e s v N xs :=
  owns_block o fun b e' => u.block b (o.lt b e').2 fun ⟨i, hi, h⟩ => by
    rcases h with h | h
    · obtain ⟨F, r, _⟩ := I.hr i hi
      exact row_owns_ne r o n4 (by rw [← h]; exact e')
    · obtain ⟨F, r, _⟩ := I.ir i hi
      exact row_owns_ne r o n5 (by rw [← h]; exact e')
theorem owns_base {w : World} {C C' e s n : Nat} {v : Value} {xs : List Value} (o : w.ownsRow C e s v n xs) (h : C' ≤ C) : w.ownsRow C' e s v n xs := by
  refine ⟨o.1, ?_⟩
  rcases o.2 with h0 | ⟨b, cap, cur, e, hB, h3⟩
  · exact .inl h0
  · exact .inr ⟨b, cap, cur, e, by omega, h3⟩
/-- A row of one-cell values, opened. -/
theorem own_open {w : World} {C e n : Nat} {v : Value} {xs : List Value} (o : w.ownsRow C e 1 v n xs) : ∃ p c, v = .slice p n c ∧ (0 < n → ∃ g, p = some ⟨g, 0, none⟩ ∧ g < w.heap.size ∧ ∀ j, j < n → w.cell? ⟨g, j, none⟩ = xs[j]?) := by
  rcases o.2 with ⟨rfl, h0⟩ | ⟨g, cap, cur, rfl, _, hg, hc, _, hs, ht⟩
  · subst h0
    exact ⟨none, 0, rfl, fun h => absurd h (by decide)⟩
  · refine ⟨_, cap, rfl, fun _ => ⟨g, rfl, (Array.getElem?_eq_some_iff.1 hg).1, fun j hj => ?_⟩⟩
    rw [← ht, List.getElem?_take, if_pos (by omega), Array.getElem?_toList]
    simp only [World.cell?, hg]
    rw [Array.getElem?_eq_getElem (show j < cur.size by omega)]
    rfl
/-- Codes, as values. -/
def cvals (D : List Nat) : List Value := D.map fun k : Nat => .int .i64 (k : Int)
theorem cvals_snoc (D : List Nat) (x : Nat) : cvals (D ++ [x]) = cvals D ++ [.int .i64 (x : Int)] := by simp [cvals]
theorem cvals_at {D : List Nat} {j : Nat} (h : j < D.length) : (cvals D)[j]? = some (.int .i64 ((D.getD j 0 : Nat) : Int)) := by
  simp [cvals, h]
theorem code_step {w : World} {B k : Nat} {v : Value} {D : List Nat} (o : w.ownsRow B 26 1 v k (cvals D)) (hk : k ≤ 1000) (hB : B ≤ w.heap.size) (x : Nat) :
    ∃ p c U, (Builtin.append_ #[24, 24] 24 #[v, .slice (some ⟨w.heap.size, 0, none⟩) 1 1]).run Try.prog (w.alloc (.cells #[.int .i64 (x : Int)] 26)) = .ok (.slice p (k + 1) c) U ∧
      U.ownsRow B 26 1 (.slice p (k + 1) c) (k + 1) (cvals (D ++ [x])) ∧ (w.alloc (.cells #[.int .i64 (x : Int)] 26)).grownBy U v.ownBlock := by
  have bA : Below w.heap.size w (w.alloc (.cells #[.int .i64 (x : Int)] 26)) := (Below.refl _ _).alloc (Nat.le_refl _) _
  obtain ⟨p, c, U, h1, h2, h3, _⟩ := app_val Try.underlying24 Try.infoErr rfl rfl (by decide) (owns_grow o bA) hk (Nat.le_trans hB bA.size) (g := w.heap.size) (x := .int .i64 (x : Int)) (by rw [World.cell?_alloc_at _ _ _ _ rfl]; rfl)
  rw [← cvals_snoc] at h2
  exact ⟨p, c, U, h1, h2, h3⟩
/-- The shelves, and what was told, in memory. -/
structure RpI (B S HO IO : Nat) (hb ib : Nat → Nat) (w0 w : World) (lp : Option Addr) (lc n m hc ic : Nat) (f : Plain.Shv) (v : Value) (k : Nat) (D : List Nat) : Prop where
  sh : ShI B S HO IO hb ib w0 w lp lc n m hc ic f
  co : w.ownsRow B 26 1 v k (cvals D)
theorem RpI.grow {B S HO IO : Nat} {hb ib : Nat → Nat} {w0 w w' : World} {lp : Option Addr} {lc n m hc ic : Nat} {f : Plain.Shv} {v : Value} {k : Nat} {D : List Nat} (h : RpI B S HO IO hb ib w0 w lp lc n m hc ic f v k D) (hB : B ≤ w.heap.size) (b : Below w.heap.size w w') : RpI B S HO IO hb ib w0 w' lp lc n m hc ic f v k D :=
  ⟨h.sh.grow hB b, owns_grow h.co b⟩
theorem RpI.turn {B S HO IO : Nat} {hb ib : Nat → Nat} {w0 w w' : World} {lp : Option Addr} {lc n m hc ic : Nat} {f f' : Plain.Shv} {v : Value} {k : Nat} {D : List Nat} (h : RpI B S HO IO hb ib w0 w lp lc n m hc ic f v k D) (I : ShI B S HO IO hb ib w0 w' lp lc n m hc ic f') (u : Un (isS hb ib n) w w') : RpI B S HO IO hb ib w0 w' lp lc n m hc ic f' v k D :=
  ⟨I, owns_un h.sh h.co (by decide) (by decide) u⟩
theorem RpI.told {B S HO IO : Nat} {hb ib : Nat → Nat} {w0 w : World} {lp : Option Addr} {lc n m hc ic : Nat} {f : Plain.Shv} {v : Value} {k : Nat} {D : List Nat} (h : RpI B S HO IO hb ib w0 w lp lc n m hc ic f v k D) (hB : B ≤ w.heap.size) (hk : k ≤ 1000) (x : Nat) :
    ∃ p c U, (Builtin.append_ #[24, 24] 24 #[v, .slice (some ⟨w.heap.size, 0, none⟩) 1 1]).run Try.prog (w.alloc (.cells #[.int .i64 (x : Int)] 26)) = .ok (.slice p (k + 1) c) U ∧ B ≤ U.heap.size ∧
      RpI B S HO IO hb ib w0 U lp lc n m hc ic f (.slice p (k + 1) c) (k + 1) (D ++ [x]) := by
  obtain ⟨p, c, U, h1, h2, h3⟩ := code_step h.co hk hB x
  have bA : Below w.heap.size w (w.alloc (.cells #[.int .i64 (x : Int)] 26)) := (Below.refl _ _).alloc (Nat.le_refl _) _
  have hA := h.grow hB bA
  exact ⟨p, c, U, h1, Nat.le_trans (Nat.le_trans hB bA.size) h3.size, hA.sh.grown hA.co (by decide) (by decide) (by decide) (by decide) (by decide) (Nat.le_refl _) (Nat.le_trans hB bA.size) h3, h2⟩

/-- The lists of one branch, label by label: a row that grows. -/
structure MiI (W w : World) (v : Value) (k : Nat) (q : Nat → Value) (s : Nat → List Plain.En) : Prop where
  ow : w.ownsRow W.heap.size 39 1 v k ((List.range k).map q)
  en : ∀ i, i < k → w.ownsRow 0 46 5 (q i) (s i).length (encN.vals (s i))
  be : Below W.heap.size W w
theorem range_snoc (q : Nat → Value) (k : Nat) (x : Value) : (List.range k).map q ++ [x] = (List.range (k + 1)).map (fun i => if i = k then x else q i) := by
  rw [List.range_succ, List.map_append]
  congr 1
  · refine List.map_congr_left fun i hi => ?_
    have := List.mem_range.1 hi
    rw [if_neg (by omega)]
  · simp
theorem MiI.snoc {W w w1 : World} {v : Value} {k : Nat} {q : Nat → Value} {s : Nat → List Plain.En} (h : MiI W w v k q s) (hk : k ≤ 1000) {x : Value} (e : EI w w1 x (s k)) (hx : x.oneCell' = true) :
    ∃ p c U, (Builtin.append_ #[40, 40] 40 #[v, .slice (some ⟨w1.heap.size, 0, none⟩) 1 1]).run Try.prog (w1.alloc (.cells #[x] 39)) = .ok (.slice p (k + 1) c) U ∧
      MiI W U (.slice p (k + 1) c) (k + 1) (fun i => if i = k then x else q i) s := by
  have bA : Below w1.heap.size w1 (w1.alloc (.cells #[x] 39)) := (Below.refl _ _).alloc (Nat.le_refl _) _
  have b1 : Below w.heap.size w (w1.alloc (.cells #[x] 39)) := e.be.trans (bA.mono e.be.size)
  have hsz : W.heap.size ≤ (w1.alloc (.cells #[x] 39)).heap.size := Nat.le_trans h.be.size b1.size
  obtain ⟨p, c, U, h1, h2, h3, _⟩ := app_val Try.underlying40 Try.infoSsE rfl hx (by decide) (owns_grow h.ow b1) hk hsz (g := w1.heap.size) (x := x) (by rw [World.cell?_alloc_at _ _ _ _ rfl]; rfl)
  rw [range_snoc] at h2
  refine ⟨p, c, U, h1, h2, fun i hi => ?_, (h.be.trans (b1.mono h.be.size)).grown h3 hsz (fun j hj => (h.ow.lt j hj).1)⟩
  by_cases ei : i = k
  · subst ei
    rw [if_pos rfl]
    exact owns_other (owns_base (owns_grow e.ow bA) (Nat.zero_le _)) (owns_grow h.ow b1) (by decide) h3
  · rw [if_neg ei]
    exact owns_other (owns_grow (h.en i (by omega)) b1) (owns_grow h.ow b1) (by decide) h3
/-- The lists of the branches: a row of such rows that grows. -/
structure AlI (B m : Nat) (w : World) (v : Value) (k : Nat) (r : Nat → Value) (q : Nat → Nat → Value) (s : Plain.Stt) : Prop where
  al : w.ownsRow B 40 1 v k ((List.range k).map r)
  mi : ∀ a, a < k → w.ownsRow 0 39 1 (r a) m ((List.range m).map (q a))
  en : ∀ a, a < k → ∀ j, j < m → w.ownsRow 0 46 5 (q a j) (s a j).length (encN.vals (s a j))
theorem AlI.grow {B m : Nat} {w w' : World} {v : Value} {k : Nat} {r : Nat → Value} {q : Nat → Nat → Value} {s : Plain.Stt} (h : AlI B m w v k r q s) (b : Below w.heap.size w w') : AlI B m w' v k r q s :=
  ⟨owns_grow h.al b, fun a ha => owns_grow (h.mi a ha) b, fun a ha j hj => owns_grow (h.en a ha j hj) b⟩
theorem AlI.snoc {B m : Nat} {W w : World} {v x : Value} {k : Nat} {r : Nat → Value} {q : Nat → Nat → Value} {s : Plain.Stt} (h : AlI B m W v k r q s) (hk : k ≤ 1000) (hB : B ≤ W.heap.size) {q' : Nat → Value} (mi : MiI W w x m q' (s k)) (hx : x.oneCell' = true) :
    ∃ p c U, (Builtin.append_ #[25, 25] 25 #[v, .slice (some ⟨w.heap.size, 0, none⟩) 1 1]).run Try.prog (w.alloc (.cells #[x] 40)) = .ok (.slice p (k + 1) c) U ∧
      (w.alloc (.cells #[x] 40)).ownsRow B 40 1 v k ((List.range k).map r) ∧ (w.alloc (.cells #[x] 40)).grownBy U v.ownBlock ∧ AlI B m U (.slice p (k + 1) c) (k + 1) (fun i => if i = k then x else r i) (fun i => if i = k then q' else q i) s := by
  have bA : Below w.heap.size w (w.alloc (.cells #[x] 40)) := (Below.refl _ _).alloc (Nat.le_refl _) _
  have hW := h.grow (mi.be.trans (bA.mono mi.be.size))
  obtain ⟨p, c, U, h1, h2, h3, _⟩ := app_val Try.underlying25 Try.infoSE rfl hx (by decide) hW.al hk (Nat.le_trans hB (Nat.le_trans mi.be.size bA.size)) (g := w.heap.size) (x := x) (by rw [World.cell?_alloc_at _ _ _ _ rfl]; rfl)
  rw [range_snoc] at h2
  refine ⟨p, c, U, h1, hW.al, h3, h2, fun a ha => ?_, fun a ha j hj => ?_⟩
  · by_cases e : a = k
    · rw [if_pos e, if_pos e]
      exact owns_other (owns_base (owns_grow mi.ow bA) (Nat.zero_le _)) hW.al (by decide) h3
    · rw [if_neg e, if_neg e]
      exact owns_other (hW.mi a (by omega)) hW.al (by decide) h3
  · by_cases e : a = k
    · rw [if_pos e, e]
      exact owns_other (owns_grow (mi.en j hj) bA) hW.al (by decide) h3
    · rw [if_neg e]
      exact owns_other (hW.en a (by omega) j hj) hW.al (by decide) h3
theorem AlI.stores {B m : Nat} {w : World} {p : Option Addr} {c n : Nat} {r : Nat → Value} {q : Nat → Nat → Value} {s : Plain.Stt} (h : AlI B m w (.slice p n c) n r q s) : Stores w p n m s := fun h0 => by
  obtain ⟨p', c', e, ho⟩ := own_open h.al
  injection e with e _ _
  subst e
  obtain ⟨g, rfl, hg, hc⟩ := ho h0
  refine ⟨g, 0, rfl, hg, fun i hi => ?_⟩
  obtain ⟨p2, c2, e2, ho2⟩ := own_open (h.mi i hi)
  refine ⟨p2, c2, by rw [Nat.zero_add, hc i hi, ← e2]; simp [hi], fun m0 => ?_⟩
  obtain ⟨g2, rfl, hg2, hc2⟩ := ho2 m0
  refine ⟨g2, 0, rfl, hg2, fun j hj => ⟨q i j, by rw [Nat.zero_add, hc2 j hj]; simp [hj], ?_⟩⟩
  exact OwnN.seg (B := 0) (T := 46) (h.en i hi j hj)
theorem codes_nums {B : Nat} {w : World} {p : Option Addr} {c N : Nat} {D : List Nat} (o : w.ownsRow B 26 1 (.slice p N c) N (cvals D)) (hD : D.length = N) : Nums w p (Plain.cz D) := fun h0 => by
  rw [Plain.cz_len] at h0
  obtain ⟨p', c', e, ho⟩ := own_open o
  injection e with e _ _
  subst e
  obtain ⟨g, rfl, hg, hc⟩ := ho (by omega)
  refine ⟨g, 0, rfl, hg, fun j hj => ?_⟩
  rw [Plain.cz_len] at hj
  rw [Nat.zero_add, hc j (by omega), cvals_at hj, Plain.cz_at D hj]

set_option maxHeartbeats 4000000 in
set_option maxRecDepth 100000 in
theorem rplay_range (lv tv : Value) (bn : Int) (L : List Int) (l : List Plain.Tu) (h : bn < 1 ∨ 8 < bn) (w : World) :
    Calls Try.prog 10 #[.int .i64 bn, lv, tv] w fun e w' => PlayP bn L l w e w' := by
  have P0 := hid (playP_no (L := L) (l := l) (bn := bn) (E := 2) (by unfold Plain.goE; rw [if_pos h]) (by decide) (Below.refl w.heap.size w))
  rcases h with h | h
  all_goals
    go_enter Try.func10, Try.ntmps10
    go_wp2
    go_ret3
    exact P0.out

set_option maxHeartbeats 8000000 in
set_option maxRecDepth 100000 in
theorem rplay_in (p : Option Addr) (m lc : Nat) (q : Option Addr) (N tc : Nat) (n : Nat) (L : List Int) (l : List Plain.Tu) (hn1 : 1 ≤ n) (hn : n ≤ 8) (hmb : m ≤ 9223372036854775807) (hNb : N ≤ 9223372036854775807) (hm : L.length = m) (hN : l.length = N) (hwf : ∀ x, x ∈ L → -9223372036854775808 ≤ x ∧ x ≤ 9223372036854775807) (w : World) (NL : Nums w p L) (NT : encT.Holds w q l) :
    Calls Try.prog 10 #[.int .i64 (n : Int), .slice p m lc, .slice q N tc] w fun e w' => PlayP (n : Int) L l w e w' := by
  have hp1 := LabP.pow_le hn
  have hz : ((2 ^ n : Nat) : Int) = (2 : Int) ^ n := by simp
  have h0 : (0 : Int) ≤ 2 ^ n := Int.pow_nonneg (by decide)
  have h256 : (2 : Int) ^ n ≤ 256 := by omega
  have hn1z : ¬ (n : Int) < 1 := by omega
  have hn8z : ¬ 8 < (n : Int) := by omega
  have DG : Plain.goE (n : Int) L l = if L.any (fun s => decide (s < 0 ∨ (2 : Int) ^ n ≤ s)) = true then 2 else if 4 < m ∨ 300 < N then 1 else 0 := by
    unfold Plain.goE
    rw [if_neg (by omega), Int.toNat_natCast, hm, hN]
  have HDG := hid DG
  have HWF := hid hwf
  have HNL := hid NL
  have HNT := hid NT
  have HM := hid hm
  have HN := hid hN
  clear DG hz hwf NL NT hm hN hp1
  go_enter Try.func10, Try.ntmps10
  go_wp2
  go_loopg [10, 27] m (fun gg _ s27 wx => ∃ k : Nat, k ≤ m ∧ m - k ≤ gg ∧ s27 = .int .i64 k ∧ wx = w ∧ Aside (∀ j, j < k → 0 ≤ L.getD j 0 ∧ L.getD j 0 < 2 ^ n))
  case atStart => exact ⟨0, Nat.zero_le _, by omega, rfl, rfl, (show Aside _ from fun j hj => absurd hj (by omega))⟩
  case round =>
    obtain ⟨k, hk, hg, rfl, hw, A⟩ := hrel
    have hy := hw.symm
    clear hw
    subst hy
    by_cases hlt : k < m
    · have hltz : (k : Int) < (m : Int) := by omega
      have hkl : k < L.length := by rw [HM.out]; exact hlt
      obtain ⟨lb, lo, rfl, hlb, lcs⟩ := HNL.out (by omega)
      have c0 := lcs k hkl
      have hmem := getD_mem L 0 hkl
      have hwx := HWF.out _ hmem
      have HMEM := hid hmem
      have HA := hid A.out
      obtain ⟨x, hx⟩ : ∃ x, x = L.getD k 0 := ⟨_, rfl⟩
      rw [← hx] at c0 HMEM hwx
      have HX := hid hx
      have PB := hid (fun (hb : x < 0 ∨ (2 : Int) ^ n ≤ x) => playP_no (w := w) (w' := w) (E := 2) (HDG.out.trans (by rw [if_pos (List.any_eq_true.2 ⟨x, HMEM.out, decide_eq_true hb⟩)])) (by decide) (Below.refl _ _))
      clear lcs hx hmem A
      by_cases hx0 : x < 0
      · have P0 := hid (PB.out (.inl hx0))
        clear PB
        go_wp2
        go_ret3
        exact P0.out
      by_cases hx1 : (2 : Int) ^ n ≤ x
      · have P0 := hid (PB.out (.inr hx1))
        clear PB
        go_wp2
        go_ret3
        exact P0.out
      have HA2 := hid (show ∀ j, j < k + 1 → 0 ≤ L.getD j 0 ∧ L.getD j 0 < 2 ^ n from fun j hj => by
        by_cases e : j = k
        · rw [e, ← HX.out]; omega
        · exact HA.out j (by omega))
      clear PB HA HX HMEM
      go_wp2
      go_roundg (m - (k + 1))
      case measure => omega
      case rel => exact ⟨k + 1, by omega, by omega, by go_num, rfl, (show Aside _ from HA2.out)⟩
    · have hltz : ¬ (k : Int) < (m : Int) := by omega
      have hkm : k = m := by omega
      have HL := hid (show ∀ x, x ∈ L → 0 ≤ x ∧ x < 2 ^ n from fun x hx => by
        obtain ⟨j, hj, e⟩ := List.getElem_of_mem hx
        have := A.out j (by rw [hkm, ← HM.out]; exact hj)
        rw [List.getD_eq_getElem?_getD, List.getElem?_eq_getElem hj] at this
        rw [← e]; exact this)
      have hbad : L.any (fun s => decide (s < 0 ∨ (2 : Int) ^ n ≤ s)) = false := by
        rw [List.any_eq_false]
        intro x hx
        have := HL.out x hx
        simp only [decide_eq_true_eq]
        omega
      have HL2 := hid (show ∀ x, x ∈ L → 0 ≤ x ∧ x < 256 from fun x hx => by have := HL.out x hx; omega)
      have HDG2 := hid (show Plain.goE (n : Int) L l = if 4 < m ∨ 300 < N then 1 else 0 by rw [HDG.out, hbad]; rfl)
      clear hbad HDG A HL hkm
      by_cases hm4 : 4 < m
      · have P0 := hid (playP_no (w := w) (w' := w) (E := 1) (HDG2.out.trans (by rw [if_pos (.inl hm4)])) (by decide) (Below.refl _ _))
        have hm4z : (4 : Int) < (m : Int) := by omega
        clear HDG2
        go_wp2
        go_ret3
        exact P0.out
      by_cases hN3 : 300 < N
      · have P0 := hid (playP_no (w := w) (w' := w) (E := 1) (HDG2.out.trans (by rw [if_pos (.inr hN3)])) (by decide) (Below.refl _ _))
        have hm4z : ¬ (4 : Int) < (m : Int) := by omega
        have hN3z : (300 : Int) < (N : Int) := by omega
        clear HDG2
        go_wp2
        go_ret3
        exact P0.out
      have HE := hid (show Plain.goE (n : Int) L l = 0 by rw [HDG2.out, if_neg (by omega)])
      have hm4z : ¬ (4 : Int) < (m : Int) := by omega
      have hN3z : ¬ (300 : Int) < (N : Int) := by omega
      have KN := newShelves_c n hn1 hn p m lc (by omega) w
      clear HDG2
      go_wp2_with fail
      refine KN.mono ?_
      rintro e W1 ⟨S, HO, IO, hb, ib, hc, ic, rfl, hI1⟩
      have I1 := hid hI1
      obtain ⟨B, hB⟩ : ∃ B, B = w.heap.size := ⟨_, rfl⟩
      rw [← hB] at I1
      have HBB := hid hB
      have hB1 : B ≤ W1.heap.size := by rw [hB]; exact hI1.be.size
      clear KN hI1 hB h0 h256 hm4z hN3z
      go_wp2
      have GN := hid (Plain.Gok.nil n L)
      go_loopg [12, 14, 53] N (fun gg s12 _ s53 wx => ∃ (k : Nat) (pc : Option Addr) (cc : Nat), k ≤ N ∧ N - k ≤ gg ∧ s53 = .int .i64 k ∧ s12 = .slice pc k cc ∧ B ≤ wx.heap.size ∧ Aside (∃ f : Plain.Shv, RpI B S HO IO hb ib w wx p lc n m hc ic f (.slice pc k cc) k (Plain.goF n L Plain.Stt.nil (l.take k)) ∧ f.Ok ∧ f.st = Plain.stF n L Plain.Stt.nil (l.take k)))
      case atStart => exact ⟨0, none, 0, Nat.zero_le _, by omega, rfl, rfl, hB1, (show Aside _ from ⟨Plain.Shv.nil, ⟨I1.out, World.ownsRow_nil _ _ _ _⟩, Plain.Shv.Ok.nil, Plain.st_nil⟩)⟩
      case round =>
        obtain ⟨k, pc, cc, hkk, hgg, rfl, rfl, hBr, A⟩ := hrel
        clear I1
        obtain ⟨f, hR, okf, stf⟩ := A.out
        have R0 := hid hR
        have OKF := hid okf
        have STF := hid stf
        clear A hR okf stf
        by_cases hlk : k < N
        · have hlkz : (k : Int) < (N : Int) := by omega
          have hll : k < l.length := by rw [HN.out]; exact hlk
          have NTr := HNT.out.grow (show Below w.heap.size w wr by rw [← HBB.out]; exact R0.out.sh.be)
          obtain ⟨tb, tof, rfl, htb, hcs⟩ := holdsT NTr (by omega)
          obtain ⟨c0, c1, c2, c3, c4, c5⟩ := hcs k hll
          have ST := hid (Plain.stF_take n L Plain.Stt.nil l k hll)
          have GT := hid (Plain.goF_take n L Plain.Stt.nil l k hll)
          have GK := hid (show Plain.Gok n L (k : Int) f.st by rw [STF.out]; exact (GN.out.run hn (l.take k) ⟨by omega, by rw [List.length_take]; omega⟩).up (by rw [List.length_take]; omega))
          have HMX := hid (show ∀ i j, Plain.maxA (f i j) 8 ≤ (k : Int) from fun i j => by
            rw [← Plain.maxA_list]
            exact Plain.maxT_le (by omega) fun e he => (GK.out.may i j e he).2.2.1)
          clear hcs NTr
          generalize l.getD k default = t at c0 c1 c2 c3 c4 c5 ST GT
          rw [← STF.out] at ST GT
          have bA : Below wr.heap.size wr (wr.alloc (boxT t)) := (Below.refl _ _).alloc (Nat.le_refl _) _
          have RA := hid (R0.out.grow hBr bA)
          have hBA : B ≤ (wr.alloc (boxT t)).heap.size := Nat.le_trans hBr bA.size
          have K := turn_c B S HO IO hb ib w p lc n hc ic L f t (k : Int) hn (by rw [HM.out]; omega) HL2.out OKF.out HMX.out (by omega) (wr.alloc (boxT t)) HBB.out.symm hBA HNL.out (by rw [HM.out]; exact RA.out.sh)
          clear R0 bA
          generalize Plain.goF n L Plain.Stt.nil (l.take k) = D at RA GT
          obtain ⟨kd, wh, tz, la, ke, va⟩ := t
          dsimp only at c0 c1 c2 c3 c4 c5
          go_wp2_with fail
          refine K.mono ?_
          rintro e w4 ⟨f', rfl, hi4, ok4, st4, un4⟩
          rw [HM.out] at hi4
          have R4 := hid (RA.out.turn hi4 un4)
          have hB4 : B ≤ w4.heap.size := Nat.le_trans hBA un4.size
          have OK4 := hid ok4
          have ST4 := hid (show f'.st = Plain.stF n L Plain.Stt.nil (l.take (k + 1)) by rw [ST.out]; exact st4)
          clear K hi4 ok4 st4 un4 RA c0 c1 c2 c3 c4 c5 hBA ST
          obtain ⟨p5, c5, U5, run5, hB5, R5⟩ := R4.out.told hB4 (by omega) (Plain.tuE n L f.st ⟨kd, wh, tz, la, ke, va⟩)
          rw [← GT.out] at R5
          have RUN := hid run5
          have HR5 := hid R5
          clear run5 R5 R4 GT
          generalize Plain.tuE n L f.st ⟨kd, wh, tz, la, ke, va⟩ = r at RUN ⊢
          go_wp2_with (first | (at_builtin; refine wpList_app _ _ 24 RUN.out (by rfl) (by rfl) (by rfl) (by rfl) (by rfl) ?_) | fail)
          go_wp2
          go_roundg (N - (k + 1))
          case measure => omega
          case rel => exact ⟨k + 1, p5, c5, by omega, by omega, by go_num, rfl, hB5, (show Aside _ from ⟨f', HR5.out, OK4.out, ST4.out⟩)⟩
        · have hlkz : ¬ (k : Int) < (N : Int) := by omega
          have hall : l.take k = l := List.take_of_length_le (by rw [HN.out]; omega)
          have ekN : k = N := by omega
          subst ekN
          rw [hall] at R0 STF
          have HGL := hid (show (Plain.goF n L Plain.Stt.nil l).length = k by rw [Plain.goF_len, HN.out])
          obtain ⟨D, hD⟩ : ∃ D, D = Plain.goF n L Plain.Stt.nil l := ⟨_, rfl⟩
          rw [← hD] at R0 HGL
          have HD := hid hD
          clear hall hD
          go_wp2
          go_loopg [15, 16, 17, 18] n (fun gg s15 s16 _ _ wx => ∃ (i : Nat) (pa : Option Addr) (ca : Nat), i ≤ n ∧ n - i ≤ gg ∧ s16 = .int .i64 i ∧ s15 = .slice pa i ca ∧ B ≤ wx.heap.size ∧ Aside (RpI B S HO IO hb ib w wx p lc n m hc ic f (.slice pc k cc) k D) ∧ Aside (∃ r q, AlI B m wx (.slice pa i ca) i r q f.st))
          case atStart => exact ⟨0, none, 0, Nat.zero_le _, by omega, rfl, rfl, hBr, (show Aside _ from R0.out), (show Aside _ from ⟨fun _ => .slice none 0 0, fun _ _ => .slice none 0 0, World.ownsRow_nil _ _ _ _, fun a ha => absurd ha (by omega), fun a ha => absurd ha (by omega)⟩)⟩
          case round =>
            obtain ⟨i, pa, ca, hi, hgi, rfl, rfl, hBi, AR, AA⟩ := hrel
            obtain ⟨r, qq, hAl⟩ := AA.out
            have RR := hid AR.out
            have AL := hid hAl
            clear AR AA hAl R0
            by_cases hlti : i < n
            · have hltiz : (i : Int) < (n : Int) := by omega
              obtain ⟨W, hW⟩ : ∃ W, W = wr := ⟨_, rfl⟩
              have HW := hid (show MiI W W (.slice none 0 0) 0 (fun _ => .slice none 0 0) (f.st i) from ⟨World.ownsRow_nil _ _ _ _, fun a ha => absurd ha (by omega), Below.refl _ _⟩)
              subst hW
              go_wp2
              go_loopg [17, 18, 72] m (fun gg s17 _ s72 wx => ∃ (j : Nat) (pm : Option Addr) (cm : Nat), j ≤ m ∧ m - j ≤ gg ∧ s72 = .int .i64 j ∧ s17 = .slice pm j cm ∧ Aside (∃ q', MiI W wx (.slice pm j cm) j q' (f.st i)))
              case atStart => exact ⟨0, none, 0, Nat.zero_le _, by omega, rfl, rfl, (show Aside _ from ⟨_, HW.out⟩)⟩
              case round =>
                obtain ⟨j, pm, cm, hj, hgj, rfl, rfl, AM⟩ := hrel
                clear HW
                obtain ⟨q', hMi⟩ := AM.out
                have MI := hid hMi
                have hBx : B ≤ wr.heap.size := Nat.le_trans hBi hMi.be.size
                have RX := hid (RR.out.grow hBi hMi.be)
                clear AM hMi
                by_cases hltj : j < m
                · have hltjz : (j : Int) < (m : Int) := by omega
                  have K := list_c B S HO IO hb ib w p lc n m hc ic f i j hlti hltj wr hBx RX.out.sh
                  go_wp2_with fail
                  refine K.mono ?_
                  rintro e w1 ⟨ql, cl, rfl, hE⟩
                  obtain ⟨p2, c2, U2, run2, M2⟩ := MI.out.snoc (by omega) hE rfl
                  have RUN := hid run2
                  have HM2 := hid M2
                  clear K hE run2 M2 MI RX
                  generalize (f.st i j).length = ln at RUN ⊢
                  go_wp2_with (first | (at_builtin; refine wpList_app _ _ 40 RUN.out (by rfl) (by rfl) (by rfl) (by rfl) (by rfl) ?_) | fail)
                  go_wp2
                  go_roundg (m - (j + 1))
                  case measure => omega
                  case rel => exact ⟨j + 1, p2, c2, by omega, by omega, by go_num, rfl, (show Aside _ from ⟨_, HM2.out⟩)⟩
                · have hltjz : ¬ (j : Int) < (m : Int) := by omega
                  have ejm : j = m := by omega
                  subst ejm
                  obtain ⟨p3, c3, U3, run3, own3, gr3, A3⟩ := AL.out.snoc (by omega) hBi MI.out rfl
                  have bA : Below wr.heap.size wr (wr.alloc (.cells #[.slice pm j cm] 40)) := (Below.refl _ _).alloc (Nat.le_refl _) _
                  have RB := RX.out.grow hBx bA
                  have R3 := hid (show RpI B S HO IO hb ib w U3 p lc n j hc ic f (.slice pc k cc) k D from ⟨RB.sh.grown own3 (by decide) (by decide) (by decide) (by decide) (by decide) (Nat.le_refl _) (Nat.le_trans hBx bA.size) gr3, owns_other RB.co own3 (by decide) gr3⟩)
                  have hB3 : B ≤ U3.heap.size := Nat.le_trans (Nat.le_trans hBx bA.size) gr3.size
                  have RUN := hid run3
                  have HA3 := hid A3
                  clear run3 own3 gr3 A3 bA RB MI RX AL RR
                  go_wp2_with (first | (at_builtin; refine wpList_app _ _ 25 RUN.out (by rfl) (by rfl) (by rfl) (by rfl) (by rfl) ?_) | fail)
                  go_wp2
                  go_roundg (n - (i + 1))
                  case measure => omega
                  case rel => exact ⟨i + 1, p3, c3, by omega, by omega, by go_num, rfl, hB3, (show Aside _ from R3.out), (show Aside _ from ⟨_, _, HA3.out⟩)⟩
            · have hltiz : ¬ (i : Int) < (n : Int) := by omega
              have ein : i = n := by omega
              subst ein
              have HF := hid (show PlayP (i : Int) L l w (.returned (.tuple #[.slice pc k cc, .slice pa i ca, .int .i64 0])) wr by
                have e1 : Plain.codesV (i : Int) L l = D := by unfold Plain.codesV; rw [HE.out, Int.toNat_natCast, HD.out]; rfl
                have e2 : Plain.cntV (i : Int) L l = i := by unfold Plain.cntV; rw [HE.out, Int.toNat_natCast]; rfl
                refine ⟨pc, cc, pa, ca, by rw [e1, e2, HGL.out, HE.out]; rfl, by rw [e1]; exact codes_nums RR.out.co HGL.out, ?_, by rw [← HBB.out]; exact RR.out.sh.be⟩
                rw [e2, Int.toNat_natCast, HM.out, ← STF.out]
                exact AL.out.stores)
              clear RR AL
              go_wp2
              go_ret3
              exact HF.out

theorem rplay_c (p : Option Addr) (m lc : Nat) (q : Option Addr) (N tc : Nat) (bn : Int) (L : List Int) (l : List Plain.Tu) (hmb : m ≤ 9223372036854775807) (hNb : N ≤ 9223372036854775807) (hm : L.length = m) (hN : l.length = N) (hwf : ∀ x, x ∈ L → -9223372036854775808 ≤ x ∧ x ≤ 9223372036854775807) (w : World) (NL : Nums w p L) (NT : encT.Holds w q l) :
    Calls Try.prog 10 #[.int .i64 bn, .slice p m lc, .slice q N tc] w fun e w' => PlayP bn L l w e w' := by
  by_cases h : bn < 1 ∨ 8 < bn
  · exact rplay_range _ _ bn L l h w
  · obtain ⟨n, rfl⟩ : ∃ n : Nat, bn = (n : Int) := ⟨bn.toNat, by omega⟩
    exact rplay_in p m lc q N tc n L l (by omega) (by omega) hmb hNb hm hN hwf w NL NT
end Go.Proofs.Ytiolkeghgodggak
