/-
  Goroutines among others: part 30 of what the law's own text rests on.
-/
import Derived.Test.YtcobehkadhcjiaaCc29
/-
  A contract of sameTable (law): two tables that hold the same rows.
-/
namespace Go.Proofs.Ytcobehkadhcjiaa
open Go.RowKit Go.Shelf

theorem kc_drewN (w : World) (q : Nat) : Kc w (w.drewN q) := Kc.heap (by unfold World.drewN; rfl)
theorem drewN_add' (w : World) (a b : Nat) : (w.drewN a).drewN b = w.drewN (a + b) := by
  unfold World.drewN
  simp [Nat.add_assoc]
namespace law
set_option maxHeartbeats 400000 in
theorem table_nil (p1 p2 : Option Addr) (c1 c2 : Nat) (w : World) :
    Calls Try.prog 9 #[.slice p1 0 c1, .slice p2 0 c2] w fun e w' => e = .returned (.bool true) ∧ ∃ q, w' = w.drewN q := by
  go_enter Try.func9, Try.ntmps9
  go_wp2
  refine wp_loop_rounds 1 ?_
  rw [rounds_succ]
  go_wp2
  go_ret
  exact ⟨rfl, 0, rfl⟩

set_option maxHeartbeats 800000 in
theorem table_two (b1 o1 c1 b2 o2 c2 m : Nat) (cs : List (List Int)) (hl : m ≤ 200) (hm : cs.length = m) (hr : ∀ j, j < m → (cs.getD j []).length ≤ 1000000) (w : World)
    (h1 : ∀ j, j < m → ∃ v, w.cell? ⟨b1, o1 + j, none⟩ = some v ∧ Seg w v (cs.getD j [])) (h2 : ∀ j, j < m → ∃ v, w.cell? ⟨b2, o2 + j, none⟩ = some v ∧ Seg w v (cs.getD j [])) :
    Calls Try.prog 9 #[.slice (some ⟨b1, o1, none⟩) m c1, .slice (some ⟨b2, o2, none⟩) m c2] w fun e w' => e = .returned (.bool true) ∧ ∃ q, w' = w.drewN q := by
  have H1 := hid h1
  have H2 := hid h2
  have HR := hid hr
  clear h1 h2 hr
  go_enter Try.func9, Try.ntmps9
  go_wp2
  go_loopw [5] (fun i wr => ∃ k q : Nat, k ≤ m ∧ i = .int .i64 k ∧ wr = w.drewN q) (fun i _ => m - (intOf i).toNat)
  case atStart => exact ⟨0, 0, Nat.zero_le _, rfl, rfl⟩
  case round =>
    obtain ⟨k, q, hk, rfl, hw⟩ := hrel
    have HW := hid hw
    clear hw
    by_cases hlt : k < m
    · obtain ⟨x1, e1, r1⟩ := H1.out k hlt
      obtain ⟨x2, e2, r2⟩ := H2.out k hlt
      obtain ⟨p1, d1, rfl⟩ := Bo.law.seg_form r1
      obtain ⟨p2, d2, rfl⟩ := Bo.law.seg_form r2
      have g1 : wr.cell? ⟨b1, o1 + k, none⟩ = some (.slice p1 (cs.getD k []).length d1) := by rw [HW.out]; simpa using e1
      have g2 : wr.cell? ⟨b2, o2 + k, none⟩ = some (.slice p2 (cs.getD k []).length d2) := by rw [HW.out]; simpa using e2
      have R1 := hid (show Seg wr (.slice p1 (cs.getD k []).length d1) (cs.getD k []) by rw [HW.out]; exact r1.kc (kc_drewN w q))
      have R2 := hid (show Seg wr (.slice p2 (cs.getD k []).length d2) (cs.getD k []) by rw [HW.out]; exact r2.kc (kc_drewN w q))
      have N1 := hid (HR.out k hlt)
      clear e1 e2 r1 r2
      have hlt' : (k : Int) < (m : Int) := by omega
      have K := fun q => Bo.law.same_any _ _ (cs.getD k []) (cs.getD k []) N1.out (wr.drewN q) (R1.out.kc (kc_drewN wr q)) (R2.out.kc (kc_drewN wr q))
      rw [decide_eq_true rfl] at K
      generalize (cs.getD k []).length = n1 at *
      go_wp2
      go_quiet ((go_at_call 26; exact Calls.quiet_of (K _)))
      go_wp2
      go_roundw
      case rel => exact ⟨k + 1, _, by omega, by go_num, by rw [HW.out, drewN_add']⟩
      case measure => simp [intOf]; omega
    · have ek : k = m := by omega
      subst ek
      go_wp2
      go_ret
      exact ⟨rfl, _, HW.out⟩
theorem table_any (p1 p2 : Option Addr) (c1 c2 : Nat) (cs : List (List Int)) (hl : cs.length ≤ 200) (hr : ∀ j, j < cs.length → (cs.getD j []).length ≤ 1000000) (w : World) (h1 : TabW w p1 cs) (h2 : TabW w p2 cs) :
    Calls Try.prog 9 #[.slice p1 cs.length c1, .slice p2 cs.length c2] w fun e w' => e = .returned (.bool true) ∧ ∃ q, w' = w.drewN q := by
  by_cases h0 : cs.length = 0
  · rw [h0]
    exact table_nil p1 p2 c1 c2 w
  · obtain ⟨b1, o1, _, rfl, _⟩ := h1.at_ 0 (by omega)
    obtain ⟨b2, o2, _, rfl, _⟩ := h2.at_ 0 (by omega)
    refine table_two b1 o1 c1 b2 o2 c2 cs.length cs hl rfl hr w (fun j hj => ?_) fun j hj => ?_
    · obtain ⟨b, off, v, e, k1, k2, _⟩ := h1.at_ j hj
      injection e with e
      injection e with e1 e2
      subst e1 e2
      exact ⟨v, k1, k2⟩
    · obtain ⟨b, off, v, e, k1, k2, _⟩ := h2.at_ j hj
      injection e with e
      injection e with e1 e2
      subst e1 e2
      exact ⟨v, k1, k2⟩
end law
end Go.Proofs.Ytcobehkadhcjiaa

/-
  A region that draws its order: r, x := g(a[i], b[i]).
-/
namespace Go.Proofs.Ytcobehkadhcjiaa
open Go Go.Conc Go.ConcN Go.Conc.Lib Go.RowKit Go.Shelf
open Go.ConcR (Payload)

/-- All blocks are as they were. -/
structure Kx (w w1 : World) : Prop where
  size : w.heap.size ≤ w1.heap.size
  block : ∀ a, a < w.heap.size → w1.heap[a]? = w.heap[a]?
theorem Kx.refl (w : World) : Kx w w := ⟨Nat.le_refl _, fun _ _ => rfl⟩
theorem Kx.trans {a b c : World} (h : Kx a b) (k : Kx b c) : Kx a c := ⟨Nat.le_trans h.size k.size, fun x hx => (k.block x (Nat.lt_of_lt_of_le hx h.size)).trans (h.block x hx)⟩
theorem Kx.heap {w w1 : World} (h : w1.heap = w.heap) : Kx w w1 := ⟨by rw [h]; exact Nat.le_refl _, fun x _ => by rw [h]⟩
theorem Kx.below {w w1 : World} (h : Below w.heap.size w w1) : Kx w w1 := ⟨h.size, h.block⟩
theorem Kx.kc {w w1 : World} (h : Kx w w1) : Kc w w1 := ⟨h.size, fun a v hv => by rw [World.cell?_of_block (h.block _ (World.block_lt_of_cell? (h := hv)))]; exact hv⟩

theorem run_mv {P : Program} {e : Operand → Value} {w : World} {o : Oper} {x : Operand} {v : Value} (hop : o.op = .move x ∨ o.op = .assign x) (h : e x = v) : (execOp e o).run P w = .ok (.value v) w := by
  subst h
  unfold execOp
  rcases hop with e | e <;> rw [e] <;> rfl

/-- Its entries. -/
structure PairC (ops : Array Oper) (sA sI sB g : Nat) (d : Nat → Nat) : Prop where
  size : ops.size = 14
  sink : Region.sinkB .any ops 13 = true
  low : ∀ i o, ops[i]? = some o → ∀ e ∈ o.after, Region.binds .any e = true → e.on < i
  ok : ops.all (okO Try.prog S1 V1) = true
  o0 : ∃ o, ops[0]? = some o ∧ o.guard = none ∧ o.dst = some (d 0) ∧ (o.op = .move (.tmp sA) ∨ o.op = .assign (.tmp sA))
  o1 : ∃ o, ops[1]? = some o ∧ o.guard = none ∧ o.dst = some (d 1) ∧ (o.op = .move (.tmp sI) ∨ o.op = .assign (.tmp sI))
  o2 : ∃ o, ops[2]? = some o ∧ o.guard = none ∧ o.dst = some (d 2) ∧ o.op = .indexAddr 22 (.tmp (d 0)) (.tmp (d 1))
  o3 : ∃ o, ops[3]? = some o ∧ o.guard = none ∧ o.dst = some (d 3) ∧ o.op = .load 3 (.tmp (d 2))
  o4 : ∃ o, ops[4]? = some o ∧ o.guard = none ∧ o.dst = some (d 4) ∧ (o.op = .move (.tmp sB) ∨ o.op = .assign (.tmp sB))
  o5 : ∃ o, ops[5]? = some o ∧ o.guard = none ∧ o.dst = some (d 5) ∧ (o.op = .move (.tmp sI) ∨ o.op = .assign (.tmp sI))
  o6 : ∃ o, ops[6]? = some o ∧ o.guard = none ∧ o.dst = some (d 6) ∧ o.op = .indexAddr 23 (.tmp (d 4)) (.tmp (d 5))
  o7 : ∃ o, ops[7]? = some o ∧ o.guard = none ∧ o.dst = some (d 7) ∧ o.op = .load 22 (.tmp (d 6))
  o8 : ∃ o, ops[8]? = some o ∧ o.guard = none ∧ o.dst = some (d 8) ∧ o.op = .call { callee := .value (.func g), args := #[.tmp (d 3), .tmp (d 7)], argTypes := #[3, 22] }
  o9 : ∃ o, ops[9]? = some o ∧ o.guard = none ∧ o.dst = some (d 9) ∧ (o.op = .move (.tmp (d 8)) ∨ o.op = .assign (.tmp (d 8)))
  o10 : ∃ o, ops[10]? = some o ∧ o.guard = none ∧ o.dst = some (d 10) ∧ o.op = .extract (.tmp (d 9)) 0
  o11 : ∃ o, ops[11]? = some o ∧ o.guard = none ∧ o.dst = some (d 11) ∧ o.op = .extract (.tmp (d 9)) 1
  o12 : ∃ o, ops[12]? = some o ∧ o.guard = none ∧ o.dst = some (d 12) ∧ (o.op = .move (.tmp (d 10)) ∨ o.op = .assign (.tmp (d 10)))
  o13 : ∃ o, ops[13]? = some o ∧ o.guard = none ∧ o.dst = some (d 13) ∧ (o.op = .move (.tmp (d 11)) ∨ o.op = .assign (.tmp (d 11)))
  w20 : Region.waitsFor .any ops 2 0 = true
  w21 : Region.waitsFor .any ops 2 1 = true
  w32 : Region.waitsFor .any ops 3 2 = true
  w64 : Region.waitsFor .any ops 6 4 = true
  w65 : Region.waitsFor .any ops 6 5 = true
  w76 : Region.waitsFor .any ops 7 6 = true
  w83 : Region.waitsFor .any ops 8 3 = true
  w87 : Region.waitsFor .any ops 8 7 = true
  w98 : Region.waitsFor .any ops 9 8 = true
  wA9 : Region.waitsFor .any ops 10 9 = true
  wB9 : Region.waitsFor .any ops 11 9 = true
  wCA : Region.waitsFor .any ops 12 10 = true
  call : ∀ args w, (callFunc g args).run Try.prog w = .ok (.enter g args) w
  mixed : Try.prog.follows .mixedOrders = true
  inj : ∀ i, i < 14 → ∀ j, j < 14 → d i = d j → i = j
  src : ∀ i, i < 14 → d i ≠ sA ∧ d i ≠ sI ∧ d i ≠ sB

def valP (va vb : Value) (i tot : Int) (pa pb : Value) (vi r x : Value) (j : Nat) : Value := [va, .int .i64 i, pa, .int .i64 tot, vb, .int .i64 i, pb, vi, .tuple #[r, x], .tuple #[r, x], r, x, r, x].getD j undef
theorem valP_r {va vb : Value} {i tot : Int} {pa pb vi r r' x : Value} {j : Nat} (hj : j < 8 ∨ j = 11 ∨ j = 13) : valP va vb i tot pa pb vi r x j = valP va vb i tot pa pb vi r' x j := by
  have : j = 0 ∨ j = 1 ∨ j = 2 ∨ j = 3 ∨ j = 4 ∨ j = 5 ∨ j = 6 ∨ j = 7 ∨ j = 11 ∨ j = 13 := by omega
  rcases this with rfl | rfl | rfl | rfl | rfl | rfl | rfl | rfl | rfl | rfl <;> rfl

structure JP (d : Nat → Nat) (N : Nat) (t0 : Array Value) (w0 : World) (val : Value → Nat → Value) (Q : Value → World → Prop) (r : Value) (ls : Array Bool) (t : Array Value) (w : World) : Prop where
  size : t.size = N
  base : ∀ s, (∀ i, i < 14 → d i ≠ s) → t[s]? = t0[s]?
  slot : ∀ j, j < 14 → ls.getD j false = true → t[d j]? = some (val r j)
  kx : Kx w0 w
  bef : ls.getD 8 false = false → ls.getD 9 false = false ∧ ls.getD 10 false = false ∧ ls.getD 11 false = false ∧ ls.getD 12 false = false ∧ ls.getD 13 false = false
  aft : ls.getD 8 false = true → Q r w

section
variable {d : Nat → Nat} {N : Nat} {t0 : Array Value} {w0 : World} {val : Value → Nat → Value} {Q : Value → World → Prop} {r : Value} {ls : Array Bool} {t : Array Value} {w : World}
theorem JP.set (J : JP d N t0 w0 val Q r ls t w) (hQ : ∀ r (a b : World), b.heap = a.heap → Q r a → Q r b) (inj : ∀ i, i < 14 → ∀ j, j < 14 → d i = d j → i = j) (hd : ∀ i, i < 14 → d i < N) {i : Nat} (hi : i < 14) (h8 : i ≠ 8) (ha : 9 ≤ i → ls.getD 8 false = true) {w' : World} (hw : w'.heap = w.heap) :
    JP d N t0 w0 val Q r (ls.setIfInBounds i true) (putT t (some (d i)) (val r i)) w' := by
  have hsz : d i < t.size := by rw [J.size]; exact hd i hi
  refine ⟨by rw [putT_size]; exact J.size, fun s hs => ?_, fun j hj hlj => ?_, J.kx.trans (Kx.heap hw), fun h => ?_, fun h => ?_⟩
  · rw [put_get hsz, if_neg fun e => hs i hi e.symm]
    exact J.base s hs
  · rw [put_get hsz]
    by_cases e : i = j
    · subst e; simp
    · rw [getD_set_ne false e] at hlj
      rw [if_neg fun h => e (inj i hi j hj h.symm)]
      exact J.slot j hj hlj
  · rw [getD_set_ne false h8] at h
    have : i < 9 := by
      rcases Nat.lt_or_ge i 9 with k | k
      · exact k
      · rw [ha k] at h; cases h
    obtain ⟨b1, b2, b3, b4, b5⟩ := J.bef h
    exact ⟨by rw [getD_set_ne false (by omega)]; exact b1, by rw [getD_set_ne false (by omega)]; exact b2, by rw [getD_set_ne false (by omega)]; exact b3, by rw [getD_set_ne false (by omega)]; exact b4, by rw [getD_set_ne false (by omega)]; exact b5⟩
  · rw [getD_set_ne false h8] at h
    exact hQ r _ _ hw (J.aft h)

variable [Shift] [Payload] {L : WgLink} {ops : Array Oper} {sA sI sB g f : Nat} {ρ : Rj} {k : List Item} {cs : List Frame}
theorem vlP (H : PairC ops sA sI sB g d) (J : JP d N t0 w0 val Q r ls t w) (hQ : ∀ r (a b : World), b.heap = a.heap → Q r a → Q r b) (hd : ∀ i, i < 14 → d i < N) {i : Nat} {rest : List Nat} (hi : i < 14) (h8 : i ≠ 8) (ha : 9 ≤ i → ls.getD 8 false = true)
    {o : Oper} (ho : ops[i]? = some o) (hg : o.guard = none) (hdst : o.dst = some (d i)) (hok : okOp Try.prog S1 o.op = true) (hr : ∀ T, (execOp (Act.eval ⟨t, []⟩) o).run Try.prog (retape w T) = .ok (.value (val r i)) (retape w T))
    (K : ∀ t'' w'', JP d N t0 w0 val Q r (ls.setIfInBounds i true) t'' w'' → MJ Try.prog L S1 V1 ρ (bare f t'') [] (.inRegion ops rest :: k) cs w'') : MJ Try.prog L S1 V1 ρ (bare f t) [] (.inRegion ops (i :: rest) :: k) cs w := by
  refine MJ.op (fun _ => some (val r i)) (fun T => retape w T) ho (by simp [Region.wanted, hg]) hok hr fun T => ?_
  rw [hdst]
  exact K _ _ (J.set hQ H.inj hd hi h8 ha rfl)

set_option maxHeartbeats 1000000 in
/-- The region, whole. -/
theorem pair_mj (hP : OkP Try.prog S1 V1) (H : PairC ops sA sI sB g d) {id : Nat} {t0 : Array Value} {w0 : World} (hz : t0.size = N) (hd : ∀ i, i < 14 → d i < N) (ba oa n ca bw ow m cw i : Nat) (tot : Int) (vi : Value) (hA : t0[sA]? = some (.slice (some ⟨ba, oa, none⟩) n ca)) (hI : t0[sI]? = some (.int .i64 i))
    (hB : t0[sB]? = some (.slice (some ⟨bw, ow, none⟩) m cw)) (hn : i < n) (hm : i < m) (cA : w0.cell? ⟨ba, oa + i, none⟩ = some (.int .i64 tot)) (cB : w0.cell? ⟨bw, ow + i, none⟩ = some vi) (x : Value) (Q : Value → World → Prop) (hQ : ∀ r (a b : World), b.heap = a.heap → Q r a → Q r b)
    (hC : ∀ w', Kx w0 w' → Calls Try.prog g #[.int .i64 tot, vi] w' fun e w'' => ∃ r, e = .returned (.tuple #[r, x]) ∧ Q r w'' ∧ Kx w' w'')
    (K : ∀ (t' : Array Value) (w' : World) (r : Value), t'.size = N → (∀ s, (∀ j, j < 14 → d j ≠ s) → t'[s]? = t0[s]?) → t'[d 12]? = some r → t'[d 13]? = some x → Q r w' → Kx w0 w' → MJ Try.prog L S1 V1 ρ (bare f t') [] k cs w') :
    MJ Try.prog L S1 V1 ρ (bare f t0) [] (.code (.region id ops true) :: k) cs w0 := by
  let val : Value → Nat → Value := fun r j => valP (.slice (some ⟨ba, oa, none⟩) n ca) (.slice (some ⟨bw, ow, none⟩) m cw) i tot (.pointer (some ⟨ba, oa + i, none⟩)) (.pointer (some ⟨bw, ow + i, none⟩)) vi r x j
  have hA' : ∀ {t : Array Value} {s : Nat} {v : Value}, (s = sA ∨ s = sI ∨ s = sB) → (∀ s, (∀ i, i < 14 → d i ≠ s) → t[s]? = t0[s]?) → t0[s]? = some v → Act.eval ⟨t, []⟩ (.tmp s) = v := fun hs hb hv => by
    refine ev_at ((hb _ fun j hj => ?_).trans hv)
    obtain ⟨a, b, c⟩ := H.src j hj
    rcases hs with rfl | rfl | rfl
    · exact a
    · exact b
    · exact c
  refine MJ.draw_all H.mixed H.size H.sink H.low (fun ls t w ρ' => ρ' = ρ ∧ ∃ r, JP d N t0 w0 val Q r ls t w) ⟨rfl, undef, hz, fun _ _ => rfl, fun j hj h => ?_, Kx.refl _, fun _ => ⟨rfl, rfl, rfl, rfl, rfl⟩, fun h => ?_⟩ ?_ ?_
  · rw [Array.getD_eq_getD_getElem?, Array.getElem?_replicate] at h
    rw [if_pos (by omega)] at h
    cases h
  · cases h
  · rintro j hj ls t w ρ' rest ⟨rfl, r, J⟩ hsz hl0 hdep K'
    have sl : ∀ {q : Nat}, q < 14 → Region.waitsFor .any ops j q = true → Act.eval ⟨t, []⟩ (.tmp (d q)) = val r q := fun h1 h2 => ev_at (J.slot _ h1 (hdep _ h2))
    have K1 : ∀ t'' w'', JP d N t0 w0 val Q r (ls.setIfInBounds j true) t'' w'' → MJ Try.prog L S1 V1 ρ' (bare f t'') [] (.inRegion ops rest :: k) cs w'' := fun t'' w'' h => K' t'' w'' ρ' ⟨rfl, r, h⟩
    have l8 : ∀ {q : Nat}, (q = 9 ∨ q = 10 ∨ q = 11 ∨ q = 12) → ls.getD q false = true → ls.getD 8 false = true := fun hq h => by
      cases h8 : ls.getD 8 false with
      | true => rfl
      | false =>
        obtain ⟨b1, b2, b3, b4, _⟩ := J.bef h8
        rcases hq with rfl | rfl | rfl | rfl
        · rw [b1] at h; cases h
        · rw [b2] at h; cases h
        · rw [b3] at h; cases h
        · rw [b4] at h; cases h
    have hc : j = 0 ∨ j = 1 ∨ j = 2 ∨ j = 3 ∨ j = 4 ∨ j = 5 ∨ j = 6 ∨ j = 7 ∨ j = 8 ∨ j = 9 ∨ j = 10 ∨ j = 11 ∨ j = 12 := by omega
    rcases hc with rfl | rfl | rfl | rfl | rfl | rfl | rfl | rfl | rfl | rfl | rfl | rfl | rfl
    · obtain ⟨o, h1, h2, h3, h4⟩ := H.o0
      exact vlP H J hQ hd (by decide) (by decide) (by omega) h1 h2 h3 (by rcases h4 with e | e <;> rw [e] <;> rfl) (fun T => run_mv h4 (hA' (.inl rfl) J.base hA)) K1
    · obtain ⟨o, h1, h2, h3, h4⟩ := H.o1
      exact vlP H J hQ hd (by decide) (by decide) (by omega) h1 h2 h3 (by rcases h4 with e | e <;> rw [e] <;> rfl) (fun T => run_mv h4 (hA' (.inr (.inl rfl)) J.base hI)) K1
    · obtain ⟨o, h1, h2, h3, h4⟩ := H.o2
      exact vlP H J hQ hd (by decide) (by decide) (by omega) h1 h2 h3 (by rw [h4]; kernel_rfl) (fun T => run_ix (ty := 22) (el := 3) h4 Try.underlying22 (by kernel_rfl) ba oa n ca i (sl (q := 0) (by decide) H.w20) (sl (q := 1) (by decide) H.w21) hn) K1
    · obtain ⟨o, h1, h2, h3, h4⟩ := H.o3
      exact vlP H J hQ hd (by decide) (by decide) (by omega) h1 h2 h3 (by rw [h4]; kernel_rfl) (fun T => run_ld3 h4 _ _ (sl (q := 2) (by decide) H.w32) (J.kx.kc.cell _ _ cA)) K1
    · obtain ⟨o, h1, h2, h3, h4⟩ := H.o4
      exact vlP H J hQ hd (by decide) (by decide) (by omega) h1 h2 h3 (by rcases h4 with e | e <;> rw [e] <;> rfl) (fun T => run_mv h4 (hA' (.inr (.inr rfl)) J.base hB)) K1
    · obtain ⟨o, h1, h2, h3, h4⟩ := H.o5
      exact vlP H J hQ hd (by decide) (by decide) (by omega) h1 h2 h3 (by rcases h4 with e | e <;> rw [e] <;> rfl) (fun T => run_mv h4 (hA' (.inr (.inl rfl)) J.base hI)) K1
    · obtain ⟨o, h1, h2, h3, h4⟩ := H.o6
      exact vlP H J hQ hd (by decide) (by decide) (by omega) h1 h2 h3 (by rw [h4]; kernel_rfl) (fun T => run_ix (ty := 23) (el := 22) h4 Try.underlying23 (by kernel_rfl) bw ow m cw i (sl (q := 4) (by decide) H.w64) (sl (q := 5) (by decide) H.w65) hm) K1
    · obtain ⟨o, h1, h2, h3, h4⟩ := H.o7
      exact vlP H J hQ hd (by decide) (by decide) (by omega) h1 h2 h3 (by rw [h4]; kernel_rfl) (fun T => run_ld22 h4 _ _ (sl (q := 6) (by decide) H.w76) (J.kx.kc.cell _ _ cB)) K1
    · obtain ⟨o, h1, h2, h3, h4⟩ := H.o8
      have h8 : ls.getD 8 false = false := by
        rw [Array.getD_eq_getD_getElem?] at hl0 ⊢
        cases h : ls[8]? with
        | none => rw [h] at hl0; cases hl0
        | some b => rw [h] at hl0; exact hl0
      obtain ⟨b1, b2, b3, b4, b5⟩ := J.bef h8
      have a1 : Act.eval ⟨t, []⟩ (.tmp (d 3)) = .int .i64 tot := sl (q := 3) (by decide) H.w83
      have a2 : Act.eval ⟨t, []⟩ (.tmp (d 7)) = vi := sl (q := 7) (by decide) H.w87
      refine MJ.call (h := g) (args := #[.int .i64 tot, vi]) hP H.ok h1 (by simp [Region.wanted, h2]) (fun w' => ?_) fun T => ?_
      · rw [run_call (g := g) h4 rfl H.call]
        simp only [List.map_toArray, List.map_cons, List.map_nil, a1, a2]
      · have kT : Kx w (retape w T) := Kx.heap rfl
        refine (hC (retape w T) (J.kx.trans kT)).mono ?_
        rintro e w' ⟨r', rfl, hq, hk⟩
        refine ⟨_, rfl, fun U => K' _ _ _ ⟨rfl, r', ?_⟩⟩
        have hsz8 : d 8 < t.size := by rw [J.size]; exact hd 8 (by decide)
        rw [h3]
        refine ⟨by rw [putT_size]; exact J.size, fun s hs => ?_, fun q hq' hlq => ?_, ((J.kx.trans kT).trans hk).trans (Kx.heap rfl), fun h => ?_, fun _ => hQ r' w' _ rfl hq⟩
        · rw [put_get hsz8, if_neg fun e => hs 8 (by decide) e.symm]
          exact J.base s hs
        · rw [put_get hsz8]
          by_cases e8 : 8 = q
          · subst e8; simp; rfl
          · rw [getD_set_ne false e8] at hlq
            rw [if_neg fun h => e8 (H.inj 8 (by decide) q hq' h.symm)]
            have hq8 : q < 8 := by
              rcases Nat.lt_or_ge q 8 with z | z
              · exact z
              · exfalso
                have : q = 9 ∨ q = 10 ∨ q = 11 ∨ q = 12 ∨ q = 13 := by omega
                rcases this with rfl | rfl | rfl | rfl | rfl
                · rw [b1] at hlq; cases hlq
                · rw [b2] at hlq; cases hlq
                · rw [b3] at hlq; cases hlq
                · rw [b4] at hlq; cases hlq
                · rw [b5] at hlq; cases hlq
            rw [J.slot q hq' hlq]
            exact congrArg some (valP_r (.inl hq8))
        · exfalso
          have : (ls.setIfInBounds 8 true).getD 8 false = true := by simp [hsz]
          rw [this] at h; cases h
    · obtain ⟨o, h1, h2, h3, h4⟩ := H.o9
      exact vlP H J hQ hd (by decide) (by decide) (fun _ => hdep 8 H.w98) h1 h2 h3 (by rcases h4 with e | e <;> rw [e] <;> rfl) (fun T => run_mv h4 (sl (q := 8) (by decide) H.w98)) K1
    · obtain ⟨o, h1, h2, h3, h4⟩ := H.o10
      exact vlP H J hQ hd (by decide) (by decide) (fun _ => l8 (.inl rfl) (hdep 9 H.wA9)) h1 h2 h3 (by rw [h4]; kernel_rfl) (fun T => run_ext h4 _ _ (sl (q := 9) (by decide) H.wA9) rfl) K1
    · obtain ⟨o, h1, h2, h3, h4⟩ := H.o11
      exact vlP H J hQ hd (by decide) (by decide) (fun _ => l8 (.inl rfl) (hdep 9 H.wB9)) h1 h2 h3 (by rw [h4]; kernel_rfl) (fun T => run_ext h4 _ _ (sl (q := 9) (by decide) H.wB9) rfl) K1
    · obtain ⟨o, h1, h2, h3, h4⟩ := H.o12
      exact vlP H J hQ hd (by decide) (by decide) (fun _ => l8 (.inr (.inl rfl)) (hdep 10 H.wCA)) h1 h2 h3 (by rcases h4 with e | e <;> rw [e] <;> rfl) (fun T => run_mv h4 (sl (q := 10) (by decide) H.wCA)) K1
  · rintro ls t w ρ' ⟨rfl, r, J⟩ hall
    obtain ⟨o, h1, h2, h3, h4⟩ := H.o13
    have e11 : Act.eval ⟨t, []⟩ (.tmp (d 11)) = x := ev_at (J.slot 11 (by decide) (hall 11 (by decide)))
    refine MJ.op (fun _ => some x) (fun T => retape w T) h1 (by simp [Region.wanted, h2]) (by rcases h4 with e | e <;> rw [e] <;> rfl) (fun T => run_mv h4 e11) fun T => MJ.regE ?_
    rw [h3]
    have hsz : d 13 < t.size := by rw [J.size]; exact hd 13 (by decide)
    refine K _ _ r (by rw [Option.getD_some, putT_size]; exact J.size) (fun s hs => ?_) ?_ ?_ (hQ r w _ rfl (J.aft (hall 8 (by decide)))) (J.kx.trans (Kx.heap rfl))
    · rw [put_get hsz, if_neg fun e => hs 13 (by decide) e.symm]
      exact J.base s hs
    · rw [put_get hsz, if_neg fun e => absurd (H.inj 12 (by decide) 13 (by decide) e) (by decide)]
      exact J.slot 12 (by decide) (hall 12 (by decide))
    · rw [put_get hsz, if_pos rfl]; rfl
end
end Go.Proofs.Ytcobehkadhcjiaa
