/-
  What was told, as it came in.
-/
import Derived.Test.YtlmiomfbpeondanVo
import Derived.Test.YtlmiomfbpeondanOs
import Derived.SizedLaws
namespace Go.Proofs.Ytlmiomfbpeondan.Vi
open Go.ChangeShapes Go.WideShapes Go.ChangeAt Go.RowKit Go.Deep

theorem list11 {l : List Value} (h : l.length = 11) : ∃ v0 v1 v2 v3 v4 v5 v6 v7 v8 v9 v10, l = [v0, v1, v2, v3, v4, v5, v6, v7, v8, v9, v10] := by
  match l, h with
  | [v0, v1, v2, v3, v4, v5, v6, v7, v8, v9, v10], _ => exact ⟨v0, v1, v2, v3, v4, v5, v6, v7, v8, v9, v10, rfl⟩
theorem list5 {l : List Value} (h : l.length = 5) : ∃ v0 v1 v2 v3 v4, l = [v0, v1, v2, v3, v4] := by
  match l, h with
  | [v0, v1, v2, v3, v4], _ => exact ⟨v0, v1, v2, v3, v4, rfl⟩
theorem all_mem {H : Type} {P : Program} {e : TypeId} : ∀ {l : List (DataW H)} {x : DataW H}, x ∈ l → ∀ n ∈ x.weights P e, n ∈ DataW.weightsAll P e l
  | y :: r, x, hx, n, hn => by
    simp only [DataW.weightsAll, List.mem_append]
    rcases List.mem_cons.1 hx with rfl | h
    · exact .inl hn
    · exact .inr (all_mem h n hn)
/-- A list of what there is at each place. -/
theorem list_ofV {α : Type} [Inhabited α] (n : Nat) (Q : Nat → α → Prop) (h : ∀ i, i < n → ∃ a, Q i a) : ∃ l : List α, l.length = n ∧ ∀ i, i < n → Q i (l.getD i default) := by
  induction n with
  | zero => exact ⟨[], rfl, fun i hi => by omega⟩
  | succ n ih =>
    obtain ⟨l, hl, hq⟩ := ih (fun i hi => h i (by omega))
    obtain ⟨a, ha⟩ := h n (by omega)
    refine ⟨l ++ [a], by simp [hl], fun i hi => ?_⟩
    by_cases e : i = n
    · subst e
      rw [List.getD_eq_getElem?_getD, List.getElem?_append_right (by omega), hl, Nat.sub_self]
      exact ha
    · have := hq i (by omega)
      rw [List.getD_eq_getElem?_getD, List.getElem?_append_left (by omega), ← List.getD_eq_getElem?_getD]
      exact this
/-- A row of structs from what stands in their cells. -/
theorem of_cellsV {α : Type} (E : Enc α) [Inhabited α] {w : World} {b off : Nat} {l : List α} (hb : 0 < l.length → b < w.heap.size) (h : ∀ i, i < l.length → ∀ j u, j < E.n → (E.enc (l.getD i default))[j]? = some u → w.cell? ⟨b, off + i * E.n + j, none⟩ = some u) : E.Holds w (some ⟨b, off, none⟩) l := fun h0 => by
  refine ⟨b, off, rfl, hb h0, fun j u hu => ?_⟩
  have hjl : j < l.length * E.n := by
    rcases Nat.lt_or_ge j (l.length * E.n) with x | x
    · exact x
    · rw [List.getElem?_eq_none (by rw [E.vals_len]; exact x)] at hu; cases hu
  have hpos := E.pos
  have hd : j / E.n < l.length := Nat.div_lt_of_lt_mul (by rw [Nat.mul_comm]; exact hjl)
  have hm : j % E.n < E.n := Nat.mod_lt _ hpos
  have ej : j = j / E.n * E.n + j % E.n := by have := Nat.div_add_mod j E.n; rw [Nat.mul_comm] at this; omega
  have hu2 : (E.vals l)[j / E.n * E.n + j % E.n]? = some u := by rw [← ej]; exact hu
  rw [E.vals_at default _ _ _ hd hm] at hu2
  have := h _ hd _ _ hm hu2
  rw [show off + j = off + j / E.n * E.n + j % E.n by omega]
  exact this
/-- A slice of numbers that came in. -/
theorem nums_open {H : Type} {enc : TypeId × Value → H} {w : World} {base n : Nat} {held : Bool} {t e : TypeId} {k : IntKind} {v : Value} {y : DataW H × List MemPlace} (E : Enc Int) (hE : E.n = 1) (hEn : ∀ z, (E.enc z)[0]? = some (.int k z)) (ht : Try.prog.underlying t = some (.slice e)) (he : Try.prog.underlying e = some (.int k)) (hc : Try.prog.cellsOf e = 1)
    (h : DataW.trod enc Try.prog w base (fun _ => true) held n t [v] = some y) : ∃ p c l, v = .slice p (List.length l) c ∧ E.Holds w p l ∧ (p = none → c = 0) ∧ ∀ B, (∀ m ∈ y.1.weights Try.prog t, m ≤ B) → l.length * Try.prog.bytesOf e ≤ B := by
  rcases open_ints ht he hc h with ⟨hcs, _⟩ | ⟨x, len, cap, zs, hcs, _, hl, hm, hz, hx, hcell, hwz⟩
  · simp only [List.cons.injEq, and_true] at hcs
    subst hcs
    exact ⟨none, 0, [], rfl, Enc.Holds.nil _ _, fun _ => rfl, fun B _ => by simp⟩
  · simp only [List.cons.injEq, and_true] at hcs
    subst hcs
    obtain ⟨l, e1, e2, e3, _, hy, hl2⟩ := row_list (k := k) (w := w) (a := some x) (len := len) (cap := cap) (zs := zs) (.inr ⟨x, rfl, hl, hm, by simpa using hz, hcell, hwz⟩)
    subst e1
    refine ⟨some x, cap, l, rfl, fun h0 => ?_, (fun e => by cases e), fun B hB => ?_⟩
    · rcases hl2 with ⟨rfl, _⟩ | ⟨b, off, hb, hc⟩
      · simp at h0
      · injection hb with hb
        subst hb
        have hlt := hy ⟨b, off, none⟩ _ _ rfl h0
        refine (of_cellsV E (fun _ => hlt) fun i hi j u hj hu => ?_) h0
        have j0 : j = 0 := by omega
        subst j0
        rw [hEn] at hu
        rw [← Option.some.inj hu, hE, Nat.mul_one, Nat.add_zero]
        exact hc i hi
    · have hz' : zs.length = cap := by simpa using hz
      have hm1 := hB ((lits (H := H) k (zs.take l.length)).length * Try.prog.bytesOf e + (lits (H := H) k (zs.drop l.length)).length * Try.prog.bytesOf e) (by rw [hx, ← Nat.add_mul]; simp [DataW.weights, ht])
      have h3 : (lits (H := H) k (zs.take l.length)).length = l.length := by simp [lits]; omega
      rw [h3] at hm1
      omega
/-- A slice of envelopes that came in. -/
theorem envs_open {H : Type} {enc : TypeId × Value → H} {w : World} {base n : Nat} {held : Bool} {v : Value} {y : DataW H × List MemPlace}
    (h : DataW.trod enc Try.prog w base (fun _ => true) held n 38 [v] = some y) : ∃ p c l, v = .slice p (List.length l) c ∧ encV.Holds w p l ∧ (p = none → c = 0) ∧ ∀ B, (∀ m ∈ y.1.weights Try.prog 38, m ≤ B) → l.length * 32 ≤ B := by
  have c32 : Try.prog.bytesOf 52 = 32 := by kernel_rfl
  rcases open_slice Try.underlying38 h with ⟨hcs, _⟩ | ⟨x, len, cap, m, fu, D, Pl, hcs, _, hl, hm, hmm, hy, _⟩
  · simp only [List.cons.injEq, and_true] at hcs
    subst hcs
    exact ⟨none, 0, [], rfl, Enc.Holds.nil _ _, fun _ => rfl, fun B _ => by simp⟩
  · simp only [List.cons.injEq, and_true] at hcs
    subst hcs
    obtain ⟨A, _, hlc, _, _, hA⟩ := open_struct_ints Try.underlying38 Try.underlying52 (by kernel_rfl) (by decide) rfl (by intro j f hj; rcases j with _ | _ | _ | _ | j <;> simp at hj <;> subst hj <;> exact ⟨rfl, by kernel_rfl, Try.underlying3⟩) h
    obtain ⟨l, hll, hq⟩ := list_ofV len (fun i (z : Ev) => z = ⟨A i 0, A i 1, A i 2, A i 3⟩) (fun i _ => ⟨_, rfl⟩)
    subst hll
    refine ⟨some x, cap, l, rfl, fun h0 => ?_, (fun e => by cases e), fun B hB => ?_⟩
    · obtain ⟨b, off, hx, hb, hcl⟩ := hA h0
      rw [hx]
      refine (of_cellsV encV (fun _ => hb) fun i hi j u hj hu => ?_) h0
      have hj4 : j < 4 := hj
      rw [hq i hi] at hu
      have := hcl i j hi hj4
      have hj5 : j = 0 ∨ j = 1 ∨ j = 2 ∨ j = 3 := by omega
      rcases hj5 with rfl | rfl | rfl | rfl
      · have hu : some (Value.int .i64 (A i 0)) = some u := hu; rw [← hu]; exact this
      · have hu : some (Value.int .i64 (A i 1)) = some u := hu; rw [← hu]; exact this
      · have hu : some (Value.int .i64 (A i 2)) = some u := hu; rw [← hu]; exact this
      · have hu : some (Value.int .i64 (A i 3)) = some u := hu; rw [← hu]; exact this
    · have := hB (((List.range l.length).map D).length * 32 + ((List.range (m - l.length)).map fun j => D (l.length + j)).length * 32) (by rw [hy, ← Nat.add_mul, ← c32]; simp [DataW.weights, Try.underlying38])
      simp only [List.length_map, List.length_range] at this
      omega
theorem at_take (l : List Value) (j : Nat) (v : Value) (h : l[j]? = some v) : (l.drop j).take 1 = [v] := by
  obtain ⟨hlt, rfl⟩ := List.getElem?_eq_some_iff.1 h
  rw [List.drop_eq_getElem_cons hlt]; rfl

set_option maxHeartbeats 4000000 in
set_option maxRecDepth 100000 in
theorem tolds_open {H : Type} {enc : TypeId × Value → H} {W : World} {d : DataW H} {p : List MemPlace} {a : Option Addr} {len cap : Nat}
    (h : DataW.Trod enc Try.prog W 0 (fun _ => true) true 25 (.slice a len cap) d p) (hw : ∀ n ∈ d.weights Try.prog 25, n ≤ 140737488355328) : ∃ R : List RT, R.length = len ∧ InT W a R := by
  obtain ⟨fuel, hfu⟩ := h
  have c1 : Try.prog.cellsOf 3 = 1 := by kernel_rfl
  have c2 : Try.prog.cellsOf 26 = 1 := by kernel_rfl
  have c3 : Try.prog.cellsOf 37 = 5 := by kernel_rfl
  have c4 : Try.prog.cellsOf 38 = 1 := by kernel_rfl
  have c5 : Try.prog.cellsOf 39 = 1 := by kernel_rfl
  have c6 : Try.prog.cellsOf 22 = 1 := by kernel_rfl
  have c11 : Try.prog.cellsOf 41 = 11 := by kernel_rfl
  have b136 : Try.prog.bytesOf 41 = 136 := by kernel_rfl
  have b8 : Try.prog.bytesOf 3 = 8 := by kernel_rfl
  have b1 : Try.prog.bytesOf 5 = 1 := by kernel_rfl
  have hfu2 : DataW.trod enc Try.prog W 0 (fun _ => true) true fuel 25 [.slice a len cap] = some (d, p) := hfu
  rcases open_slice Try.underlying25 hfu2 with ⟨h0, _⟩ | ⟨ad, l, c, m, n, D, Pl, hc, _, hl, hm, hmm, hx, hxx⟩
  · simp only [List.cons.injEq, Value.slice.injEq, and_true] at h0
    obtain ⟨rfl, rfl, rfl⟩ := h0
    exact ⟨[], rfl, Enc.Holds.nil _ _, fun _ hr => (nomatch hr), by simp⟩
  simp only [List.cons.injEq, Value.slice.injEq, and_true] at hc
  obtain ⟨rfl, rfl, rfl⟩ := hc
  have hd : d = .slice ((List.range len).map D) ((List.range (m - len)).map fun j => D (len + j)) := congrArg Prod.fst hx
  have hlm : len ≤ m := by rw [hmm]; split <;> omega
  have hwD : ∀ i, i < len → ∀ n ∈ (D i).weights Try.prog 41, n ≤ 140737488355328 := fun i hi n hn => hw n (by
    rw [hd]
    simp only [DataW.weights, Try.underlying25, List.mem_cons, List.mem_append]
    exact .inr (.inl (all_mem (List.mem_map.2 ⟨i, List.mem_range.2 hi, rfl⟩) n hn)))
  have hk : ∀ i, i < len → ∃ r : RT, (∀ j u, j < 11 → (encT.enc r)[j]? = some u → W.cell? (ad.add (i * 11 + j)) = some u) ∧ TdO W r := by
    intro i hi
    obtain ⟨cs', h1, h2⟩ := hxx i (by omega)
    rw [c11] at h1
    obtain ⟨_, hlen, hcell⟩ := World.cells?_some h1
    obtain ⟨xs, k, _, hDi, _, hxl, hg⟩ := DataW.trod_struct Try.underlying41 h2
    have hwi := hwD i hi
    have hDx : D i = .agg (xs.map (·.1)) := congrArg Prod.fst hDi
    rw [hDx] at hwi
    obtain ⟨v0, v1, v2, v3, v4, v5, v6, v7, v8, v9, v10, rfl⟩ := list11 hlen
    have hx7 : xs.length = 7 := hxl
    have g0 : DataW.trod enc Try.prog W 0 (fun _ => true) true k 26 (([v0, v1, v2, v3, v4, v5, v6, v7, v8, v9, v10].drop 0).take (Try.prog.cellsOf 26)) = xs[0]? := hg 0 _ rfl
    have g1 : DataW.trod enc Try.prog W 0 (fun _ => true) true k 3 (([v0, v1, v2, v3, v4, v5, v6, v7, v8, v9, v10].drop 1).take (Try.prog.cellsOf 3)) = xs[1]? := hg 1 _ rfl
    have g2 : DataW.trod enc Try.prog W 0 (fun _ => true) true k 37 (([v0, v1, v2, v3, v4, v5, v6, v7, v8, v9, v10].drop 2).take (Try.prog.cellsOf 37)) = xs[2]? := hg 2 _ rfl
    have g3 : DataW.trod enc Try.prog W 0 (fun _ => true) true k 3 (([v0, v1, v2, v3, v4, v5, v6, v7, v8, v9, v10].drop 7).take (Try.prog.cellsOf 3)) = xs[3]? := hg 3 _ rfl
    have g4 : DataW.trod enc Try.prog W 0 (fun _ => true) true k 38 (([v0, v1, v2, v3, v4, v5, v6, v7, v8, v9, v10].drop 8).take (Try.prog.cellsOf 38)) = xs[4]? := hg 4 _ rfl
    have g5 : DataW.trod enc Try.prog W 0 (fun _ => true) true k 39 (([v0, v1, v2, v3, v4, v5, v6, v7, v8, v9, v10].drop 9).take (Try.prog.cellsOf 39)) = xs[5]? := hg 5 _ rfl
    have g6 : DataW.trod enc Try.prog W 0 (fun _ => true) true k 22 (([v0, v1, v2, v3, v4, v5, v6, v7, v8, v9, v10].drop 10).take (Try.prog.cellsOf 22)) = xs[6]? := hg 6 _ rfl
    rw [List.getElem?_eq_getElem (by omega)] at g0 g1 g2 g3 g4 g5 g6
    rw [c2] at g0
    rw [c1] at g1 g3
    rw [c3] at g2
    rw [c4] at g4
    rw [c5] at g5
    rw [c6] at g6
    have q0 := DataW.trod_int Try.underlying26 g0
    have q1 := DataW.trod_int Try.underlying3 g1
    have q3 := DataW.trod_int Try.underlying3 g3
    obtain ⟨ys, k2, _, _, _, hyl, hgs⟩ := DataW.trod_struct Try.underlying37 g2
    have hy5 : ys.length = 5 := hyl
    have s0 : DataW.trod enc Try.prog W 0 (fun _ => true) true k2 26 (((([v0, v1, v2, v3, v4, v5, v6, v7, v8, v9, v10].drop 2).take 5).drop 0).take (Try.prog.cellsOf 26)) = ys[0]? := hgs 0 _ rfl
    have s1 : DataW.trod enc Try.prog W 0 (fun _ => true) true k2 3 (((([v0, v1, v2, v3, v4, v5, v6, v7, v8, v9, v10].drop 2).take 5).drop 1).take (Try.prog.cellsOf 3)) = ys[1]? := hgs 1 _ rfl
    have s2 : DataW.trod enc Try.prog W 0 (fun _ => true) true k2 3 (((([v0, v1, v2, v3, v4, v5, v6, v7, v8, v9, v10].drop 2).take 5).drop 2).take (Try.prog.cellsOf 3)) = ys[2]? := hgs 2 _ rfl
    have s3 : DataW.trod enc Try.prog W 0 (fun _ => true) true k2 3 (((([v0, v1, v2, v3, v4, v5, v6, v7, v8, v9, v10].drop 2).take 5).drop 3).take (Try.prog.cellsOf 3)) = ys[3]? := hgs 3 _ rfl
    have s4 : DataW.trod enc Try.prog W 0 (fun _ => true) true k2 3 (((([v0, v1, v2, v3, v4, v5, v6, v7, v8, v9, v10].drop 2).take 5).drop 4).take (Try.prog.cellsOf 3)) = ys[4]? := hgs 4 _ rfl
    rw [List.getElem?_eq_getElem (by omega)] at s0 s1 s2 s3 s4
    rw [c2] at s0
    rw [c1] at s1 s2 s3 s4
    have r0 := DataW.trod_int Try.underlying26 s0
    have r1 := DataW.trod_int Try.underlying3 s1
    have r2 := DataW.trod_int Try.underlying3 s2
    have r3 := DataW.trod_int Try.underlying3 s3
    have r4 := DataW.trod_int Try.underlying3 s4
    simp only [List.drop_zero, List.drop_succ_cons, List.take_succ_cons, List.take_zero, List.cons.injEq, and_true] at r0 r1 r2 r3 r4
    simp only [List.drop_zero, List.drop_succ_cons, List.take_succ_cons, List.take_zero, List.cons.injEq, and_true] at q0 q1 q3
    obtain ⟨z0, rfl, _⟩ := q0
    obtain ⟨z1, rfl, _⟩ := q1
    obtain ⟨z3, rfl, _⟩ := q3
    obtain ⟨k0, rfl, _⟩ := r0
    obtain ⟨k1, rfl, _⟩ := r1
    obtain ⟨k2', rfl, _⟩ := r2
    obtain ⟨k3, rfl, _⟩ := r3
    obtain ⟨k4, rfl, _⟩ := r4
    simp only [List.drop_zero, List.drop_succ_cons, List.take_succ_cons, List.take_zero] at g4 g5 g6
    obtain ⟨ps, cs, sent, rfl, hs1, hs2, hs3⟩ := envs_open g4
    obtain ⟨pf, cf, frame, rfl, hf1, hf2, hf3⟩ := nums_open encB rfl (fun _ => rfl) Try.underlying39 Try.underlying5 (by kernel_rfl) g5
    obtain ⟨pr, cr, report, rfl, hr1, hr2, hr3⟩ := nums_open encI rfl (fun _ => rfl) Try.underlying22 Try.underlying3 (by kernel_rfl) g6
    have w4 := hs3 _ (fun n hn => hwi n (by simp only [DataW.weights, Try.underlying41]; exact DataW.weights_mem_each (j := 4) (t := 38) rfl (by rw [List.getElem?_map, List.getElem?_eq_getElem (by omega)]; rfl) n hn))
    have w5 := hf3 _ (fun n hn => hwi n (by simp only [DataW.weights, Try.underlying41]; exact DataW.weights_mem_each (j := 5) (t := 39) rfl (by rw [List.getElem?_map, List.getElem?_eq_getElem (by omega)]; rfl) n hn))
    have w6 := hr3 _ (fun n hn => hwi n (by simp only [DataW.weights, Try.underlying41]; exact DataW.weights_mem_each (j := 6) (t := 22) rfl (by rw [List.getElem?_map, List.getElem?_eq_getElem (by omega)]; rfl) n hn))
    rw [b1, Nat.mul_one] at w5
    rw [b8] at w6
    refine ⟨⟨⟨z0, z1, ⟨k0, k1, k2', k3, k4⟩, z3, sent, frame, report⟩, ps, cs, pf, cf, pr, cr⟩, fun j u hj hu => ?_, ⟨hs1, hs2, w4, hf1, hf2, w5, hr1, hr2, w6⟩⟩
    have hcj := hcell j hj
    rw [add_add] at hcj
    rw [hcj, ← hu]
    have hj11 : j = 0 ∨ j = 1 ∨ j = 2 ∨ j = 3 ∨ j = 4 ∨ j = 5 ∨ j = 6 ∨ j = 7 ∨ j = 8 ∨ j = 9 ∨ j = 10 := by omega
    rcases hj11 with rfl | rfl | rfl | rfl | rfl | rfl | rfl | rfl | rfl | rfl | rfl <;> rfl
  obtain ⟨R, hR, hq⟩ := list_ofV len _ hk
  have hsz : (len + (m - len)) * 136 ≤ 140737488355328 := hw _ (by
    rw [hd, ← b136]
    simp [DataW.weights, Try.underlying25])
  subst hR
  refine ⟨R, rfl, ?_, fun r hr => ?_, by omega⟩
  · by_cases h0 : 0 < R.length
    · obtain ⟨sb, so, spot⟩ := ad
      have hz0 := (hq 0 h0).1 0 _ (by omega) rfl
      have hspot : spot = none := by simpa [Addr.add] using World.cell?_spot hz0
      subst hspot
      refine of_cellsV encT (fun _ => ?_) fun i hi j u hj hu => ?_
      · rw [add_at] at hz0; exact World.block_lt_of_cell? (w := W) (h := hz0)
      · have := (hq i hi).1 j u hj hu
        rw [add_at, ← Nat.add_assoc] at this
        exact this
    · exact fun x => absurd x h0
  · obtain ⟨i, hi, rfl⟩ := List.getElem_of_mem hr
    have := (hq i hi).2
    rw [List.getD_eq_getElem?_getD, List.getElem?_eq_getElem hi] at this
    exact this
end Go.Proofs.Ytlmiomfbpeondan.Vi
