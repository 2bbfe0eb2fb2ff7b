/-
  book: a round.
-/
import Derived.Test.YtiolkeghgodggajY5
import Derived.Carry
namespace Go.Proofs.Ytiolkeghgodggaj.Bo
open Go.RowKit Go.Shelf Go.Sort

abbrev zeroU : Obj := .cells #[.int .i64 0, .slice none 0 0, .int .i64 0] 44
/-- What a round leaves, when all were given theirs. -/
theorem doP_round {B R oo A G N L H : Nat} {XX : Win} {vl : Value} {b : Plain.Bk} {c : Plain.Ca} {w w0 W W' : World} {gc cc : Nat} (hk : c.kind = 3) (h : BkI B R oo XX A G w vl b N) (g : Geo R A G L H) (hL : B ≤ L) (gv : GvI R oo XX A G L H w0 W (Plain.begB b) (N + 1) b.n)
    (un0 : Un (Fb R A G vl) w w0) (hf : ∀ k, k < w.heap.size → Fb R A G (.slice (some ⟨L, 0, none⟩) b.n b.n) k → Fb R A G vl k) (hH : w.heap.size ≤ H) (hr : RowI W' gc (Plain.giveB (Plain.begB b)).given) (hgc : W.heap.size ≤ gc) (bel : Below W.heap.size W W') (rep : Int) (hrep : rep = Plain.reportB b) :
    DoP B R oo XX A G N vl b c w (.returned (aggU ⟨⟨0, (Plain.giveB (Plain.begB b)).given, rep⟩, some ⟨gc, 0, none⟩, cc⟩)) (putU W' H 0 ⟨⟨0, (Plain.giveB (Plain.begB b)).given, rep⟩, some ⟨gc, 0, none⟩, cc⟩) := by
  have hE : Plain.caE b c = 0 := by unfold Plain.caE; rw [if_pos hk]
  have hT : Plain.caT b c = ⟨0, (Plain.giveB (Plain.begB b)).given, rep⟩ := by unfold Plain.caT; rw [hE, if_neg (by decide), if_pos hk, hrep]; rfl
  have hB : Plain.caB b c = Plain.giveB (Plain.begB b) := by unfold Plain.caB; rw [hE, if_neg (by decide), if_pos hk]; rfl
  have hn : (Plain.begB b).n = b.n := Plain.begB_n b
  have ht : (Plain.begB b).ticks = b.ticks := by unfold Plain.begB; split <;> rfl
  have hrd : (Plain.begB b).rounds = b.rounds := by unfold Plain.begB; split <;> rfl
  have hall := Plain.givS_all (Plain.begB b)
  rw [hn] at hall
  have hlen : (Plain.giveB (Plain.begB b)).given.length = b.n := by show (Plain.mapN (Plain.begB b).n _).length = _; rw [Plain.mapN_len, hn]
  obtain ⟨r, hr0⟩ : ∃ r : RU, r = ⟨⟨0, (Plain.giveB (Plain.begB b)).given, rep⟩, some ⟨gc, 0, none⟩, cc⟩ := ⟨_, rfl⟩
  rw [← hr0]
  have up := putU_un (F := (· = H)) W' H 0 r rfl
  have lv : ∀ j, j < W.heap.size → j ≠ H → (putU W' H 0 r).heap[j]? = W.heap[j]? := fun j hj hne => (up.block j (Nat.lt_of_lt_of_le hj bel.size) hne).trans (bel.block j hj)
  have hgne : gc ≠ H := by have := gv.box.lt; omega
  have hrow : RowI (putU W' H 0 r) gc (Plain.giveB (Plain.begB b)).given := hr.of_block (up.block gc hr.lt hgne)
  have hFb : ∀ k, Fb R A G (.slice (some ⟨L, 0, none⟩) b.n b.n) k → k < W.heap.size := fun k hk => by
    rcases hk with rfl | rfl | rfl | hk
    · exact gv.row.lt
    · exact gv.ra.lt
    · exact gv.rg.lt
    · simp only [Value.ownBlock, Option.some.injEq] at hk
      have := gv.rl.lt
      omega
  have gun := gv.un
  rw [hn] at gun
  refine ⟨r, .slice (some ⟨L, 0, none⟩) b.n b.n, N + 1, rfl, by rw [hT, hr0], ?_, Nat.le_refl _, ?_, ?_, hf⟩
  · rw [hB]
    refine ⟨?_, ?_, ?_, h.ok.beg.give, by show 1 ≤ (Plain.begB b).n; rw [hn]; exact h.n1, by show (Plain.begB b).n ≤ 8; rw [hn]; exact h.n8, ?_, .inr ⟨L, by show _ = Value.slice _ (Plain.begB b).n (Plain.begB b).n; rw [hn], ?_, hL, g.LR, g.LA, g.LG⟩, h.hR, h.hA, h.hG, h.RA, h.RG, h.AG, by show (Plain.begB b).ticks ≤ 8; rw [ht]; exact h.tk, h.le⟩
    · have := gv.row.of_block (lv R gv.row.lt (fun e => g.HR e.symm))
      refine Win.congr this fun j hj => ?_
      rw [← hall]
      have : j = 0 ∨ j = 1 ∨ j = 2 ∨ j = 3 ∨ j = 4 ∨ j = 5 ∨ j = 6 ∨ j = 7 := by omega
      rcases this with rfl | rfl | rfl | rfl | rfl | rfl | rfl | rfl
      · rfl
      · rfl
      · rfl
      · rfl
      · rfl
      · rfl
      · show Value.slice _ (Plain.begB b).n (Plain.begB b).n = _; rw [hn]; rfl
      · rfl
    · exact gv.ra.of_block (lv A gv.ra.lt (fun e => g.HA e.symm))
    · rw [← hall]; exact gv.rg.of_block (lv G gv.rg.lt (fun e => g.HG e.symm))
    · show ((Plain.begB b).rounds + 1) % (Plain.begB b).ticks = (N + 1) % (Plain.begB b).ticks
      rw [hrd, ht, h.rd, Nat.mod_add_mod]
    · have : Plain.leftB (Plain.giveB (Plain.begB b)) = Plain.leftB (Plain.givS (Plain.begB b) b.n) := by rw [← hall]; rfl
      rw [this]
      exact gv.rl.of_block (lv L gv.rl.lt (fun e => g.HL e.symm))
  · have u1 : Un (Fb R A G vl) w W := un0.thenU gun hf
    refine ⟨up.os.trans (bel.os.trans u1.os), up.tape.trans (bel.tape.trans u1.tape), up.output.trans (bel.output.trans u1.output), Nat.le_trans u1.size (Nat.le_trans bel.size up.size), fun k hk hF => ?_⟩
    rw [lv k (Nat.lt_of_lt_of_le hk u1.size) (by omega)]
    exact u1.block k hk hF
  · rw [hr0]
    rw [hr0] at hrow
    refine Ns.of_row hrow (fun x => ?_)
    rcases x with x | x
    · have := hFb _ x; omega
    · have := un0.size; have := gun.size; omega


theorem GvI.start {B R oo A G L H N : Nat} {XX : Win} {W : World} {b : Plain.Bk} (h : BkI B R oo XX A G W (.slice (some ⟨L, 0, none⟩) b.n b.n) b N) (hrl : RowI W L (Plain.leftB b)) (g : Geo R A G L H) (box : W.rowIs H 44 3 (ruF ⟨⟨0, [], 0⟩, none, 0⟩)) :
    GvI R oo XX A G L H (W.setCell ⟨R, oo + 7, none⟩ (.int .i64 ((N : Int) + 1))) (W.setCell ⟨R, oo + 7, none⟩ (.int .i64 ((N : Int) + 1))) b (N + 1) 0 := by
  have u : ∀ j, j ≠ R → (W.setCell ⟨R, oo + 7, none⟩ (.int .i64 ((N : Int) + 1))).heap[j]? = W.heap[j]? := fun j hj => Below.heap_setCell _ ⟨R, oo + 7, none⟩ _ j hj
  refine ⟨?_, h.ra.of_block (u A (fun e => h.RA e.symm)), ?_, ?_, box.of_block (u H g.HR), Un.refl _ _, h.le⟩
  · rw [Plain.givS_zero h.ok]
    refine Win.set h.row 7 (by omega) _ fun j hj => ?_
    have : j = 0 ∨ j = 1 ∨ j = 2 ∨ j = 3 ∨ j = 4 ∨ j = 5 ∨ j = 6 ∨ j = 7 := by omega
    rcases this with rfl | rfl | rfl | rfl | rfl | rfl | rfl | rfl <;> rfl
  · rw [Plain.givS_zero h.ok]; exact h.rg.of_block (u G (fun e => h.RG e.symm))
  · rw [Plain.givS_zero h.ok]; exact hrl.of_block (u L g.LR)
/-- An epoch has begun. -/
theorem BkI.begun {B R oo A G N g : Nat} {XX : Win} {W W2 : World} {vl : Value} {b : Plain.Bk} (h : BkI B R oo XX A G W vl b N) (h0 : b.rounds = 0) (hb : Below W.heap.size W W2) (hr : RowI W2 g (Plain.splitL b.reserve (List.replicate b.n b.cap))) (hg : W.heap.size ≤ g) :
    BkI B R oo XX A G (W2.setCell ⟨R, oo + 6, none⟩ (.slice (some ⟨g, 0, none⟩) b.n b.n)) (.slice (some ⟨g, 0, none⟩) (Plain.begB b).n (Plain.begB b).n) (Plain.begB b) N ∧ RowI (W2.setCell ⟨R, oo + 6, none⟩ (.slice (some ⟨g, 0, none⟩) b.n b.n)) g (Plain.leftB (Plain.begB b)) := by
  have h2 := h.grow hb
  have u : ∀ j, j ≠ R → (W2.setCell ⟨R, oo + 6, none⟩ (.slice (some ⟨g, 0, none⟩) b.n b.n)).heap[j]? = W2.heap[j]? := fun j hj => Below.heap_setCell _ ⟨R, oo + 6, none⟩ _ j hj
  have hn := Plain.begB_n b
  have hgR : g ≠ R := by have := h.row.lt; omega
  have hl : RowI (W2.setCell ⟨R, oo + 6, none⟩ (.slice (some ⟨g, 0, none⟩) b.n b.n)) g (Plain.leftB (Plain.begB b)) := by rw [Plain.leftB_beg h0]; exact hr.of_block (u g hgR)
  refine ⟨⟨?_, ?_, ?_, h.ok.beg, by rw [hn]; exact h.n1, by rw [hn]; exact h.n8, ?_, .inr ⟨g, rfl, hl, by have := h.hB; omega, hgR, by have := h.ra.lt; omega, by have := h.rg.lt; omega⟩, h.hR, h.hA, h.hG, h.RA, h.RG, h.AG, ?_, h.le⟩, hl⟩
  · rw [hn]
    refine Win.set h2.row 6 (by omega) _ fun j hj => ?_
    unfold Plain.begB
    rw [if_pos h0]
    have : j = 0 ∨ j = 1 ∨ j = 2 ∨ j = 3 ∨ j = 4 ∨ j = 5 ∨ j = 6 ∨ j = 7 := by omega
    rcases this with rfl | rfl | rfl | rfl | rfl | rfl | rfl | rfl <;> rfl
  · rw [Plain.begB_wants]; exact h2.ra.of_block (u A (fun e => h.RA e.symm))
  · rw [Plain.begB_given]; exact h2.rg.of_block (u G (fun e => h.RG e.symm))
  · have e1 : (Plain.begB b).rounds = b.rounds := by unfold Plain.begB; split <;> rfl
    have e2 : (Plain.begB b).ticks = b.ticks := by unfold Plain.begB; split <;> rfl
    rw [e1, e2]; exact h.rd
  · have e2 : (Plain.begB b).ticks = b.ticks := by unfold Plain.begB; split <;> rfl
    rw [e2]; exact h.tk

set_option maxHeartbeats 4000000 in
set_option maxRecDepth 100000 in
theorem round_on (B R oo A G N : Nat) (XX : Win) (vl : Value) (b : Plain.Bk) (c : Plain.Ca) (hk : c.kind = 3) (hN : N ≤ 1000) (h0 : b.rounds ≠ 0) (w : World) (h : BkI B R oo XX A G w vl b N) :
    Calls Try.prog 29 #[.pointer (some ⟨R, oo, none⟩)] w fun e w' => DoP B R oo XX A G N vl b c w e w' := by
  obtain ⟨b1, hb1⟩ : ∃ b1, b1 = Plain.begB b := ⟨_, rfl⟩
  obtain ⟨W0, hW0⟩ : ∃ W0, W0 = w.alloc zeroU := ⟨_, rfl⟩
  have b0 : Below w.heap.size w W0 := by rw [hW0]; exact (Below.refl _ _).alloc (Nat.le_refl _) _
  have x0 := rowU_new w ⟨⟨0, [], 0⟩, none, 0⟩
  have rx : W0.rowIs w.heap.size 44 3 (ruF ⟨⟨0, [], 0⟩, none, 0⟩) := by rw [hW0]; exact x0
  clear x0
  have hn1 := h.n1
  have hn8 := h.n8
  have ht0 := h.ok.tk
  have htk := h.tk
  have HN1 := hid (show b1.n = b.n by rw [hb1]; exact Plain.begB_n b)
  have OK1 := hid (show Plain.Ok b1 by rw [hb1]; exact h.ok.beg)
  have LEN := hid (show (Plain.giveB b1).given.length = b.n by rw [hb1]; show (Plain.mapN (Plain.begB b).n _).length = _; rw [Plain.mapN_len, Plain.begB_n])
  have hmod : Int.tmod (N : Int) (b.ticks : Nat) = ((b.rounds : Nat) : Int) := by rw [h.rd]; exact (Int.ofNat_tmod _ _).symm
  have hb2 : b1 = b := by rw [hb1]; unfold Plain.begB; rw [if_neg h0]
  rcases h.lv with ⟨hN0, _⟩ | ⟨L, hvl, hrl, hL, hLR, hLA, hLG⟩
  · exfalso
    apply h0
    rw [h.rd, hN0, Nat.zero_mod]
  subst hvl
  have GEO := hid (show Geo R A G L w.heap.size from ⟨h.RA, h.RG, h.AG, hLR, hLA, hLG, by have := h.row.lt; omega, by have := h.ra.lt; omega, by have := h.rg.lt; omega, by have := hrl.lt; omega⟩)
  have HREP := hid (show (-1 : Int) = Plain.reportB b by unfold Plain.reportB; rw [if_neg h0])
  have hrz : ((b.rounds : Int) == 0) = false := by simpa using h0
  have H := hid h
  have HRL := hid hrl
  have RX := hid rx
  have BX := hid b0
  have r7 := (h.grow b0).c7
  have r1 := (h.grow b0).c1
  have HB1 := hid hb1
  have HB2 := hid hb2
  clear rx b0 hrl h hb1 hb2 h0
  obtain ⟨n, hn⟩ : ∃ n, n = b.n := ⟨_, rfl⟩
  rw [← hn] at hn1 hn8 HN1 LEN
  have HNB := hid hn
  have HW0 := hid hW0
  clear hn hW0
  have htz : ((b.ticks : Nat) : Int) ≠ 0 := by omega
  have htz2 : (((b.ticks : Nat) : Int) == 0) = false := by simpa using htz
  generalize b.ticks = tk at ht0 htk hmod htz htz2 r1
  generalize b.rounds = rd at hmod hrz
  go_enter Try.func29, Try.ntmps29
  go_wp2
  have eW0 : w.alloc (.cells #[.int .i64 0, .slice none 0 0, .int .i64 0] 44) = W0 := HW0.out.symm
  rw [eW0]
  go_quiet (fail)
  obtain ⟨W1, hW1⟩ : ∃ W1, W1 = W0.drewN nq := ⟨_, rfl⟩
  rw [← hW1]
  have B1 := hid (show Below w.heap.size w W1 by rw [hW1]; exact below_drewN BX.out nq)
  have RX1 := hid (show W1.rowIs w.heap.size 44 3 (ruF ⟨⟨0, [], 0⟩, none, 0⟩) by rw [hW1]; exact RX.out.of_block rfl)
  have H1 := hid (H.out.grow B1.out)
  clear hW1 r7 r1 RX BX
  have q7 := H1.out.c7
  have q5 := H1.out.c5
  rw [← HNB.out] at q5
  have f7 := H1.out.row.frozen (oo + 7)
  obtain ⟨W9, hW9⟩ : ∃ W9, W9 = W1.setCell ⟨R, oo + 7, none⟩ (.int .i64 ((N : Int) + 1)) := ⟨_, rfl⟩
  have GV := hid (show GvI R oo XX A G L w.heap.size W9 W9 b1 (N + 1) 0 by
    rw [hW9, HB2.out]
    exact GvI.start H1.out (HRL.out.of_block (B1.out.block _ HRL.out.lt)) GEO.out RX1.out)
  have UN0 := hid (show Un (Fb R A G (.slice (some ⟨L, 0, none⟩) b.n b.n)) w W9 by rw [hW9]; exact (Un.of_below B1.out).trans (Un.set (.inl rfl) _ _))
  have FIN := hid (fun (wr W5 : World) (gc cc : Nat) (gv : GvI R oo XX A G L w.heap.size W9 wr b1 (N + 1) n) (hr : RowI W5 gc (Plain.givS b1 n).given) (hgc : wr.heap.size ≤ gc) (hbl : Below wr.heap.size wr W5) (rep : Int) (hrep : rep = Plain.reportB b) =>
    (show DoP B R oo XX A G N (.slice (some ⟨L, 0, none⟩) b.n b.n) b c w (.returned (aggU ⟨⟨0, (Plain.giveB b1).given, rep⟩, some ⟨gc, 0, none⟩, cc⟩)) (putU W5 w.heap.size 0 ⟨⟨0, (Plain.giveB b1).given, rep⟩, some ⟨gc, 0, none⟩, cc⟩) by
      have eg : (Plain.givS b1 n).given = (Plain.giveB b1).given := by rw [← HN1.out, ← Plain.givS_all b1]
      rw [eg, HB1.out] at hr
      rw [HB1.out, HNB.out] at gv
      rw [HB1.out]
      exact doP_round hk H.out GEO.out hL gv UN0.out (fun _ _ x => x) (Nat.le_refl _) hr hgc hbl rep hrep))
  clear UN0 B1 RX1 H1 H HRL
  go_wp2
  rw [← hW9]
  clear hW9 q7 q5 f7

  go_loopg [4, 5, 37] n (fun gg _ _ s37 wx => ∃ k : Nat, k ≤ n ∧ n - k ≤ gg ∧ s37 = .int .i64 k ∧ Aside (GvI R oo XX A G L w.heap.size W9 wx b1 (N + 1) k))
  case atStart => exact ⟨0, Nat.zero_le _, by omega, rfl, (show Aside _ from GV.out)⟩
  case round =>
    obtain ⟨k, hkk, hg, rfl, AA⟩ := hrel
    clear GV
    have HI := hid AA.out
    clear AA
    by_cases hlt : k < n
    · have hltz : (k : Int) < (n : Int) := by omega
      have hk0 : (0 : Int) ≤ (k : Int) := by omega
      have hkb : k < b1.n := by rw [HN1.out]; exact hlt
      have r2 : wr.cell? ⟨R, oo + 2, none⟩ = some (.int .i64 (Plain.givS b1 k).reserve) := Win.cell HI.out.row HI.out.le (i := 2) (by omega)
      have r4 : wr.cell? ⟨R, oo + 4, none⟩ = some (.slice (some ⟨A, 0, none⟩) n n) := by rw [← HN1.out]; exact Win.cell HI.out.row HI.out.le (i := 4) (by omega)
      have r5 : wr.cell? ⟨R, oo + 5, none⟩ = some (.slice (some ⟨G, 0, none⟩) n n) := by rw [← HN1.out]; exact Win.cell HI.out.row HI.out.le (i := 5) (by omega)
      have r6 : wr.cell? ⟨R, oo + 6, none⟩ = some (.slice (some ⟨L, 0, none⟩) n n) := by rw [← HN1.out]; exact Win.cell HI.out.row HI.out.le (i := 6) (by omega)
      have ca : wr.cell? ⟨A, k, none⟩ = some (.int .i64 (b1.wants.getD k 0)) := HI.out.ra.cell (by rw [OK1.out.lw]; exact hkb)
      have cg : wr.cell? ⟨G, k, none⟩ = some (.int .i64 (b1.given.getD k 0)) := by rw [← (Plain.givS_given hkb).1]; exact HI.out.rg.cell (by rw [Plain.givS_len]; exact hkb)
      have cl : wr.cell? ⟨L, k, none⟩ = some (.int .i64 (b1.quotas.getD k 0 - b1.since.getD k 0)) := by rw [← (Plain.givS_left hkb).1]; exact HI.out.rl.cell (by rw [Plain.leftB_len]; exact hkb)
      have fg := HI.out.rg.frozen k
      have fl := HI.out.rl.frozen k
      have fr := HI.out.row.frozen (oo + 2)
      have hb := Plain.amt_bd OK1.out hkb
      have hmin := Plain.amt_min OK1.out hkb
      have hwa := OK1.out.wa k hkb
      have hgi := OK1.out.gi k hkb
      have hsi := OK1.out.si k hkb
      have hqu := OK1.out.qu k hkb
      have hcp := OK1.out.cap.2
      have hre := Plain.givS_bd OK1.out (Nat.le_of_lt hkb)
      have ST := hid (fun q => (HI.out.drewN q).step GEO.out hkb)
      clear HI
      generalize Plain.amt b1 k = am at *
      generalize (Plain.givS b1 k).reserve = re at *
      generalize b1.wants.getD k 0 = wk at *
      generalize b1.given.getD k 0 = gk at *
      have hlk : 0 ≤ b1.quotas.getD k 0 - b1.since.getD k 0 ∧ b1.quotas.getD k 0 - b1.since.getD k 0 ≤ 1048576 := by omega
      clear hsi hqu hcp
      generalize b1.quotas.getD k 0 - b1.since.getD k 0 = lk at *
      have hsub : IntKind.i64.wrap (wk - gk) = wk - gk := by rw [IntKind.wrap_i64]; omega
      have hmn : (if lk < wk - gk then lk else wk - gk) = am := by rw [hmin]; split <;> omega
      clear hmin
      go_wp2
      go_region
      obtain ⟨W3, hW3⟩ : ∃ W3, W3 = wr.drewN 1 := ⟨_, rfl⟩
      have eW : wr.drew = W3 := hW3.symm
      have ST3 := hid (ST.out 1)
      rw [← hW3] at ST3
      rw [eW]
      have q2 : W3.cell? ⟨R, oo + 2, none⟩ = some (.int .i64 re) := by rw [hW3]; simpa using r2
      have q5 : W3.cell? ⟨R, oo + 5, none⟩ = some (.slice (some ⟨G, 0, none⟩) n n) := by rw [hW3]; simpa using r5
      have q6 : W3.cell? ⟨R, oo + 6, none⟩ = some (.slice (some ⟨L, 0, none⟩) n n) := by rw [hW3]; simpa using r6
      have qg : W3.cell? ⟨G, k, none⟩ = some (.int .i64 gk) := by rw [hW3]; simpa using cg
      have ql : W3.cell? ⟨L, k, none⟩ = some (.int .i64 lk) := by rw [hW3]; simpa using cl
      have pg : W3.frozen? ⟨G, k, none⟩ = false := by rw [hW3]; exact fg
      have pl : W3.frozen? ⟨L, k, none⟩ = false := by rw [hW3]; exact fl
      have pr : W3.frozen? ⟨R, oo + 2, none⟩ = false := by rw [hW3]; exact fr
      clear hW3 eW r2 r4 r5 r6 ca cg cl fg fl fr ST
      have n1 := GEO.out.RG
      have n2 := GEO.out.LR
      have n3 := GEO.out.LG
      have n1' := n1.symm
      have n2' := n2.symm
      have n3' := n3.symm
      go_wp2
      go_roundg (n - (k + 1))
      case measure => omega
      case rel => exact ⟨k + 1, by omega, by omega, by go_num, (show Aside _ from ST3.out)⟩
    · have hltz : ¬ (k : Int) < (n : Int) := by omega
      have ek : k = n := by omega
      subst ek
      have r5 : wr.cell? ⟨R, oo + 5, none⟩ = some (.slice (some ⟨G, 0, none⟩) k k) := by rw [← HN1.out]; exact Win.cell HI.out.row HI.out.le (i := 5) (by omega)
      have K := clone_row G k k _ (by rw [Plain.givS_len, HN1.out]) hn1 (by omega) wr HI.out.rg
      go_wp2_with fail
      refine K.mono ?_
      rintro e W5 ⟨gc, cc, rfl, hr, hgc, hbl⟩
      have R5 := hid (HI.out.box.of_block (hbl.block _ HI.out.box.lt))
      have HE := hid (fun rep hrep => FIN.out wr W5 gc cc HI.out hr hgc hbl rep hrep)
      clear K hr hgc hbl HI
      have y0 : W5.cell? ⟨w.heap.size, 0, none⟩ = some (.int .i64 0) := R5.out.cell (i := 0) (by omega)
      have y1 : W5.cell? ⟨w.heap.size, 1, none⟩ = some (.slice none 0 0) := R5.out.cell (i := 1) (by omega)
      have y2 : W5.cell? ⟨w.heap.size, 2, none⟩ = some (.int .i64 0) := R5.out.cell (i := 2) (by omega)
      have z0 := R5.out.frozen 0
      have z1 := R5.out.frozen 1
      have z2 := R5.out.frozen 2
      go_wp2
      (try simp only [Exit.inBlock, Exit.then])
      have HX := HE.out (-1) HREP.out
      obtain ⟨r, hr0⟩ : ∃ r : RU, r = ⟨⟨0, (Plain.giveB b1).given, -1⟩, some ⟨gc, 0, none⟩, cc⟩ := ⟨_, rfl⟩
      have e6 : ((W5.setCell ⟨w.heap.size, 0, none⟩ (.int .i64 0)).setCell ⟨w.heap.size, 1, none⟩ (.slice (some ⟨gc, 0, none⟩) k cc)).setCell ⟨w.heap.size, 2, none⟩ (.int .i64 (-1)) = putU W5 w.heap.size 0 r := by
        rw [hr0]
        unfold putU
        rw [show (Plain.giveB b1).given.length = k from LEN.out]
        rfl
      rw [e6]
      rw [← hr0] at HX
      exact bodyPost_U rfl w.heap.size r rfl (putU_row R5.out r) rfl HX

set_option maxHeartbeats 4000000 in
set_option maxRecDepth 100000 in
theorem round_beg (B R oo A G N : Nat) (XX : Win) (vl : Value) (b : Plain.Bk) (c : Plain.Ca) (hk : c.kind = 3) (hN : N ≤ 1000) (h0 : b.rounds = 0) (w : World) (h : BkI B R oo XX A G w vl b N) :
    Calls Try.prog 29 #[.pointer (some ⟨R, oo, none⟩)] w fun e w' => DoP B R oo XX A G N vl b c w e w' := by
  obtain ⟨b1, hb1⟩ : ∃ b1, b1 = Plain.begB b := ⟨_, rfl⟩
  obtain ⟨W0, hW0⟩ : ∃ W0, W0 = w.alloc zeroU := ⟨_, rfl⟩
  have b0 : Below w.heap.size w W0 := by rw [hW0]; exact (Below.refl _ _).alloc (Nat.le_refl _) _
  have x0 := rowU_new w ⟨⟨0, [], 0⟩, none, 0⟩
  have rx : W0.rowIs w.heap.size 44 3 (ruF ⟨⟨0, [], 0⟩, none, 0⟩) := by rw [hW0]; exact x0
  clear x0
  have hn1 := h.n1
  have hn8 := h.n8
  have ht0 := h.ok.tk
  have htk := h.tk
  have HN1 := hid (show b1.n = b.n by rw [hb1]; exact Plain.begB_n b)
  have OK1 := hid (show Plain.Ok b1 by rw [hb1]; exact h.ok.beg)
  have LEN := hid (show (Plain.giveB b1).given.length = b.n by rw [hb1]; show (Plain.mapN (Plain.begB b).n _).length = _; rw [Plain.mapN_len, Plain.begB_n])
  have hmod : Int.tmod (N : Int) (b.ticks : Nat) = ((b.rounds : Nat) : Int) := by rw [h.rd]; exact (Int.ofNat_tmod _ _).symm
  have HREP := hid (show b.reserve = Plain.reportB b by unfold Plain.reportB; rw [if_pos h0])
  have hrz : ((b.rounds : Int) == 0) = true := by simpa using h0
  have H := hid h
  have H0 := hid h0
  have RX := hid rx
  have BX := hid b0
  have r7 := (h.grow b0).c7
  have r1 := (h.grow b0).c1
  have HB1 := hid hb1
  clear rx b0 h hb1 h0
  obtain ⟨n, hn⟩ : ∃ n, n = b.n := ⟨_, rfl⟩
  rw [← hn] at hn1 hn8 HN1 LEN
  have HNB := hid hn
  have HW0 := hid hW0
  clear hn hW0
  have htz : ((b.ticks : Nat) : Int) ≠ 0 := by omega
  have htz2 : (((b.ticks : Nat) : Int) == 0) = false := by simpa using htz
  generalize b.ticks = tk at ht0 htk hmod htz htz2 r1
  generalize b.rounds = rd at hmod hrz
  go_enter Try.func29, Try.ntmps29
  go_wp2
  have eW0 : w.alloc (.cells #[.int .i64 0, .slice none 0 0, .int .i64 0] 44) = W0 := HW0.out.symm
  rw [eW0]
  go_quiet (fail)
  obtain ⟨W1, hW1⟩ : ∃ W1, W1 = W0.drewN nq := ⟨_, rfl⟩
  rw [← hW1]
  have B1 := hid (show Below w.heap.size w W1 by rw [hW1]; exact below_drewN BX.out nq)
  have RX1 := hid (show W1.rowIs w.heap.size 44 3 (ruF ⟨⟨0, [], 0⟩, none, 0⟩) by rw [hW1]; exact RX.out.of_block rfl)
  have H1 := hid (H.out.grow B1.out)
  clear hW1 r7 r1 RX BX
  have q2 := H1.out.c2
  have K := quotas_c B R oo A G N XX vl b W1 H1.out
  rw [← HNB.out] at K
  go_wp2_with fail
  refine K.mono ?_
  rintro e W2 ⟨L, rfl, hr2, hg2, hb2⟩
  have B2 := hid hb2
  have G2 := hid hg2
  have R2 := hid (show RowI W2 L (Plain.splitL b.reserve (List.replicate b.n b.cap)) by rw [← HNB.out]; exact hr2)
  clear K hr2 hb2 hg2 q2
  have H2 := hid (H1.out.grow B2.out)
  have q7 := H2.out.c7
  have q6 := H2.out.c6
  have q5 := H2.out.c5
  rw [← HNB.out] at q5
  have f7 := H2.out.row.frozen (oo + 7)
  have f6 := H2.out.row.frozen (oo + 6)
  have GEO := hid (show Geo R A G L w.heap.size from ⟨H.out.RA, H.out.RG, H.out.AG, by have := H1.out.row.lt; have := G2.out; omega, by have := H1.out.ra.lt; have := G2.out; omega, by have := H1.out.rg.lt; have := G2.out; omega, by have := H.out.row.lt; omega, by have := H.out.ra.lt; omega, by have := H.out.rg.lt; omega, by have := RX1.out.lt; have := G2.out; omega⟩)
  obtain ⟨W8, hW8⟩ : ∃ W8, W8 = W2.setCell ⟨R, oo + 6, none⟩ (.slice (some ⟨L, 0, none⟩) n n) := ⟨_, rfl⟩
  have BG := H1.out.begun H0.out B2.out R2.out G2.out
  rw [← HB1.out, ← HNB.out, ← hW8] at BG
  have RX8 : W8.rowIs w.heap.size 44 3 (ruF ⟨⟨0, [], 0⟩, none, 0⟩) := by
    rw [hW8]
    exact (RX1.out.of_block (B2.out.block _ RX1.out.lt)).of_block (Below.heap_setCell _ ⟨R, oo + 6, none⟩ _ _ GEO.out.HR)
  obtain ⟨W9, hW9⟩ : ∃ W9, W9 = W8.setCell ⟨R, oo + 7, none⟩ (.int .i64 ((N : Int) + 1)) := ⟨_, rfl⟩
  have GV := hid (show GvI R oo XX A G L w.heap.size W9 W9 b1 (N + 1) 0 by
    rw [hW9]
    exact GvI.start BG.1 BG.2 GEO.out RX8)
  have hLn : w.heap.size ≤ L := by have := B1.out.size; have := G2.out; omega
  have HLN := hid hLn
  have UN0 := hid (show Un (Fb R A G vl) w W9 by rw [hW9, hW8]; exact (((Un.of_below B1.out).trans (Un.of_below B2.out)).trans (Un.set (.inl rfl) _ _)).trans (Un.set (.inl rfl) _ _))
  have FIN := hid (fun (wr W5 : World) (gc cc : Nat) (gv : GvI R oo XX A G L w.heap.size W9 wr b1 (N + 1) n) (hr : RowI W5 gc (Plain.givS b1 n).given) (hgc : wr.heap.size ≤ gc) (hbl : Below wr.heap.size wr W5) (rep : Int) (hrep : rep = Plain.reportB b) =>
    (show DoP B R oo XX A G N vl b c w (.returned (aggU ⟨⟨0, (Plain.giveB b1).given, rep⟩, some ⟨gc, 0, none⟩, cc⟩)) (putU W5 w.heap.size 0 ⟨⟨0, (Plain.giveB b1).given, rep⟩, some ⟨gc, 0, none⟩, cc⟩) by
      have eg : (Plain.givS b1 n).given = (Plain.giveB b1).given := by rw [← HN1.out, ← Plain.givS_all b1]
      rw [eg, HB1.out] at hr
      rw [HB1.out, HNB.out] at gv
      rw [HB1.out]
      exact doP_round hk H.out GEO.out (by have := H.out.hB; have := HLN.out; omega) gv UN0.out (fun k hk x => by
        rcases x with x | x | x | x
        · exact .inl x
        · exact .inr (.inl x)
        · exact .inr (.inr (.inl x))
        · simp only [Value.ownBlock, Option.some.injEq] at x
          have := HLN.out
          omega) (Nat.le_refl _) hr hgc hbl rep hrep))
  have e9 : W9 = (W2.setCell ⟨R, oo + 6, none⟩ (.slice (some ⟨L, 0, none⟩) n n)).setCell ⟨R, oo + 7, none⟩ (.int .i64 ((N : Int) + 1)) := by rw [hW9, hW8]
  clear UN0 B1 RX1 H1 H RX8 BG hLn B2 G2 R2 H2 hW8 hW9
  generalize b.reserve = re0 at HREP ⊢
  go_wp2
  rw [← e9]
  clear e9 q7 q6 q5 f7 f6

  go_loopg [4, 5, 37] n (fun gg _ _ s37 wx => ∃ k : Nat, k ≤ n ∧ n - k ≤ gg ∧ s37 = .int .i64 k ∧ Aside (GvI R oo XX A G L w.heap.size W9 wx b1 (N + 1) k))
  case atStart => exact ⟨0, Nat.zero_le _, by omega, rfl, (show Aside _ from GV.out)⟩
  case round =>
    obtain ⟨k, hkk, hg, rfl, AA⟩ := hrel
    clear GV
    have HI := hid AA.out
    clear AA
    by_cases hlt : k < n
    · have hltz : (k : Int) < (n : Int) := by omega
      have hk0 : (0 : Int) ≤ (k : Int) := by omega
      have hkb : k < b1.n := by rw [HN1.out]; exact hlt
      have r2 : wr.cell? ⟨R, oo + 2, none⟩ = some (.int .i64 (Plain.givS b1 k).reserve) := Win.cell HI.out.row HI.out.le (i := 2) (by omega)
      have r4 : wr.cell? ⟨R, oo + 4, none⟩ = some (.slice (some ⟨A, 0, none⟩) n n) := by rw [← HN1.out]; exact Win.cell HI.out.row HI.out.le (i := 4) (by omega)
      have r5 : wr.cell? ⟨R, oo + 5, none⟩ = some (.slice (some ⟨G, 0, none⟩) n n) := by rw [← HN1.out]; exact Win.cell HI.out.row HI.out.le (i := 5) (by omega)
      have r6 : wr.cell? ⟨R, oo + 6, none⟩ = some (.slice (some ⟨L, 0, none⟩) n n) := by rw [← HN1.out]; exact Win.cell HI.out.row HI.out.le (i := 6) (by omega)
      have ca : wr.cell? ⟨A, k, none⟩ = some (.int .i64 (b1.wants.getD k 0)) := HI.out.ra.cell (by rw [OK1.out.lw]; exact hkb)
      have cg : wr.cell? ⟨G, k, none⟩ = some (.int .i64 (b1.given.getD k 0)) := by rw [← (Plain.givS_given hkb).1]; exact HI.out.rg.cell (by rw [Plain.givS_len]; exact hkb)
      have cl : wr.cell? ⟨L, k, none⟩ = some (.int .i64 (b1.quotas.getD k 0 - b1.since.getD k 0)) := by rw [← (Plain.givS_left hkb).1]; exact HI.out.rl.cell (by rw [Plain.leftB_len]; exact hkb)
      have fg := HI.out.rg.frozen k
      have fl := HI.out.rl.frozen k
      have fr := HI.out.row.frozen (oo + 2)
      have hb := Plain.amt_bd OK1.out hkb
      have hmin := Plain.amt_min OK1.out hkb
      have hwa := OK1.out.wa k hkb
      have hgi := OK1.out.gi k hkb
      have hsi := OK1.out.si k hkb
      have hqu := OK1.out.qu k hkb
      have hcp := OK1.out.cap.2
      have hre := Plain.givS_bd OK1.out (Nat.le_of_lt hkb)
      have ST := hid (fun q => (HI.out.drewN q).step GEO.out hkb)
      clear HI
      generalize Plain.amt b1 k = am at *
      generalize (Plain.givS b1 k).reserve = re at *
      generalize b1.wants.getD k 0 = wk at *
      generalize b1.given.getD k 0 = gk at *
      have hlk : 0 ≤ b1.quotas.getD k 0 - b1.since.getD k 0 ∧ b1.quotas.getD k 0 - b1.since.getD k 0 ≤ 1048576 := by omega
      clear hsi hqu hcp
      generalize b1.quotas.getD k 0 - b1.since.getD k 0 = lk at *
      have hsub : IntKind.i64.wrap (wk - gk) = wk - gk := by rw [IntKind.wrap_i64]; omega
      have hmn : (if lk < wk - gk then lk else wk - gk) = am := by rw [hmin]; split <;> omega
      clear hmin
      go_wp2
      go_region
      obtain ⟨W3, hW3⟩ : ∃ W3, W3 = wr.drewN 1 := ⟨_, rfl⟩
      have eW : wr.drew = W3 := hW3.symm
      have ST3 := hid (ST.out 1)
      rw [← hW3] at ST3
      rw [eW]
      have q2 : W3.cell? ⟨R, oo + 2, none⟩ = some (.int .i64 re) := by rw [hW3]; simpa using r2
      have q5 : W3.cell? ⟨R, oo + 5, none⟩ = some (.slice (some ⟨G, 0, none⟩) n n) := by rw [hW3]; simpa using r5
      have q6 : W3.cell? ⟨R, oo + 6, none⟩ = some (.slice (some ⟨L, 0, none⟩) n n) := by rw [hW3]; simpa using r6
      have qg : W3.cell? ⟨G, k, none⟩ = some (.int .i64 gk) := by rw [hW3]; simpa using cg
      have ql : W3.cell? ⟨L, k, none⟩ = some (.int .i64 lk) := by rw [hW3]; simpa using cl
      have pg : W3.frozen? ⟨G, k, none⟩ = false := by rw [hW3]; exact fg
      have pl : W3.frozen? ⟨L, k, none⟩ = false := by rw [hW3]; exact fl
      have pr : W3.frozen? ⟨R, oo + 2, none⟩ = false := by rw [hW3]; exact fr
      clear hW3 eW r2 r4 r5 r6 ca cg cl fg fl fr ST
      have n1 := GEO.out.RG
      have n2 := GEO.out.LR
      have n3 := GEO.out.LG
      have n1' := n1.symm
      have n2' := n2.symm
      have n3' := n3.symm
      go_wp2
      go_roundg (n - (k + 1))
      case measure => omega
      case rel => exact ⟨k + 1, by omega, by omega, by go_num, (show Aside _ from ST3.out)⟩
    · have hltz : ¬ (k : Int) < (n : Int) := by omega
      have ek : k = n := by omega
      subst ek
      have r5 : wr.cell? ⟨R, oo + 5, none⟩ = some (.slice (some ⟨G, 0, none⟩) k k) := by rw [← HN1.out]; exact Win.cell HI.out.row HI.out.le (i := 5) (by omega)
      have K := clone_row G k k _ (by rw [Plain.givS_len, HN1.out]) hn1 (by omega) wr HI.out.rg
      go_wp2_with fail
      refine K.mono ?_
      rintro e W5 ⟨gc, cc, rfl, hr, hgc, hbl⟩
      have R5 := hid (HI.out.box.of_block (hbl.block _ HI.out.box.lt))
      have HE := hid (fun rep hrep => FIN.out wr W5 gc cc HI.out hr hgc hbl rep hrep)
      clear K hr hgc hbl HI
      have y0 : W5.cell? ⟨w.heap.size, 0, none⟩ = some (.int .i64 0) := R5.out.cell (i := 0) (by omega)
      have y1 : W5.cell? ⟨w.heap.size, 1, none⟩ = some (.slice none 0 0) := R5.out.cell (i := 1) (by omega)
      have y2 : W5.cell? ⟨w.heap.size, 2, none⟩ = some (.int .i64 0) := R5.out.cell (i := 2) (by omega)
      have z0 := R5.out.frozen 0
      have z1 := R5.out.frozen 1
      have z2 := R5.out.frozen 2
      go_wp2
      (try simp only [Exit.inBlock, Exit.then])
      have HX := HE.out (re0) HREP.out
      obtain ⟨r, hr0⟩ : ∃ r : RU, r = ⟨⟨0, (Plain.giveB b1).given, re0⟩, some ⟨gc, 0, none⟩, cc⟩ := ⟨_, rfl⟩
      have e6 : ((W5.setCell ⟨w.heap.size, 0, none⟩ (.int .i64 0)).setCell ⟨w.heap.size, 1, none⟩ (.slice (some ⟨gc, 0, none⟩) k cc)).setCell ⟨w.heap.size, 2, none⟩ (.int .i64 re0) = putU W5 w.heap.size 0 r := by
        rw [hr0]
        unfold putU
        rw [show (Plain.giveB b1).given.length = k from LEN.out]
        rfl
      rw [e6]
      rw [← hr0] at HX
      exact bodyPost_U rfl w.heap.size r rfl (putU_row R5.out r) rfl HX

theorem round_c (B R oo A G N : Nat) (XX : Win) (vl : Value) (b : Plain.Bk) (c : Plain.Ca) (hk : c.kind = 3) (hN : N ≤ 1000) (w : World) (h : BkI B R oo XX A G w vl b N) :
    Calls Try.prog 29 #[.pointer (some ⟨R, oo, none⟩)] w fun e w' => DoP B R oo XX A G N vl b c w e w' := by
  by_cases h0 : b.rounds = 0
  · exact round_beg B R oo A G N XX vl b c hk hN h0 w h
  · exact round_on B R oo A G N XX vl b c hk hN h0 w h
end Go.Proofs.Ytiolkeghgodggaj.Bo
