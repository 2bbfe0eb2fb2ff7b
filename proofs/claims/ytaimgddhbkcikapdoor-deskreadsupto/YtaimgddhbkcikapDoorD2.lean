/-
  desk.fields: a map of a step's fields, whatever the order in which its entries are laid.
-/
import Derived.Test.YtaimgddhbkcikapDoorD1
namespace Go.Proofs.YtaimgddhbkcikapDoor
open Go Go.RowKit
set_option maxRecDepth 100000

noncomputable def ops12 : Array Oper := match Tryd.f12.body with | some (.seq _ (.seq (.region _ ops _) _)) => ops | _ => #[]
/-- What has been done, where the entries of m are laid. -/
def lst (m : Nat) : Array Bool := (Array.range 31).map fun i => if i = 29 ∨ i = 30 then false else if i % 4 = 0 ∧ i ≠ 0 then m.testBit (i / 4 - 1) else true
theorem rdy : ∀ m, m < 128 → Region.ready .any ops12 (lst m) = if m = 127 then [29] else ((List.range 7).filter fun j => !m.testBit j).map fun j => 4 * j + 4 := by decide +kernel
theorem lst_set0 : ((List.range 128).all fun m => (List.range 7).all fun j => ((lst m).setIfInBounds (4 * j + 4) true).toList == (lst (m ||| 2 ^ j)).toList) = true := by decide +kernel
theorem lst_set (m : Nat) (hm : m < 128) (j : Nat) (hj : j < 7) : (lst m).setIfInBounds (4 * j + 4) true = lst (m ||| 2 ^ j) :=
  Array.toList_inj.1 (eq_of_beq (List.all_eq_true.1 (List.all_eq_true.1 lst_set0 m (List.mem_range.2 hm)) j (List.mem_range.2 hj)))
theorem or_lt : ∀ m, m < 128 → ∀ j, j < 7 → m ||| 2 ^ j < 128 := by decide +kernel
def cntB (m : Nat) : Nat := ((List.range 7).filter fun j => !m.testBit j).length
theorem cntB_set : ∀ m, m < 128 → ∀ j, j < 7 → m.testBit j = false → cntB (m ||| 2 ^ j) + 1 = cntB m := by decide +kernel
theorem cntB_zero : ∀ m, m < 128 → cntB m = 0 → m = 127 := by decide +kernel
theorem cntB_127 : cntB 127 = 0 := by decide +kernel
/-- The slots, where all that reads no memory has been done. -/
abbrev tm12 (b o M : Nat) : Array Value := #[.pointer (some ⟨b, o, none⟩), undef, .map none, .map (some M), .pointer (some ⟨b, o, none⟩), .pointer (some ⟨b, o, none⟩), ptrA b o 0, .pointer (some ⟨b, o, none⟩), .pointer (some ⟨b, o, none⟩), ptrA b o 1, .pointer (some ⟨b, o, none⟩), .pointer (some ⟨b, o, none⟩), ptrA b o 2, .pointer (some ⟨b, o, none⟩), .pointer (some ⟨b, o, none⟩), ptrA b o 3, .pointer (some ⟨b, o, none⟩), .pointer (some ⟨b, o, none⟩), ptrA b o 4, .pointer (some ⟨b, o, none⟩), .pointer (some ⟨b, o, none⟩), ptrA b o 5, .pointer (some ⟨b, o, none⟩), .pointer (some ⟨b, o, none⟩), ptrA b o 6, undef]
abbrev act12 (b o M : Nat) : Act := ⟨tm12 b o M, []⟩
theorem ins_wp {m k x : Operand} {ty : TypeId} {pos : String} {aft : Array Edge} {a : Act} {w w' : World} {K : Act → World → Prop} {Q : Exit → Act → World → Prop} {vm vk vx : Value}
    (hr : (Instr.mapUpdate 36 vm vk vx).run Tryd.prog w = .ok () w') (hm : a.eval m = vm) (hx : a.eval x = vx) (h : K a w') (hk : k = .const vk := by rfl) : Oper.wp Tryd.prog ⟨none, .insert 36 m k x, ty, pos, aft, none⟩ a w K Q := by
  subst hk
  unfold Oper.wp execOp
  have hk : a.eval (.const vk) = vk := rfl
  simp only [hm, hx, hk, Sem.run_bind, hr, Result.andThen_ok, Sem.run_pure]
  exact h
/-- The entries, in whatever order. -/
theorem any_ins (b o M : Nat) {Q : Exit → Act → World → Prop} (w0 : World)
    (hQ : ∀ w, MpI w M b o 127 → (∀ B, B ≤ M → Below B w0 w) → w.heap.size = w0.heap.size → (∀ k, k ≠ M → w.heap[k]? = w0.heap[k]?) → wpAny Tryd.prog .any ops12 Q 2 (lst 127) (act12 b o M) w) :
    ∀ (n m : Nat), m < 128 → cntB m = n → ∀ w, MpI w M b o m → (∀ B, B ≤ M → Below B w0 w) → w.heap.size = w0.heap.size → (∀ k, k ≠ M → w.heap[k]? = w0.heap[k]?) → wpAny Tryd.prog .any ops12 Q (n + 2) (lst m) (act12 b o M) w := by
  intro n
  induction n with
  | zero =>
    intro m hm hc w hI hb hs hk
    obtain rfl := cntB_zero m hm hc
    exact hQ w hI hb hs hk
  | succ n ih =>
    intro m hm hc w hI hb hs hk
    have hne : m ≠ 127 := fun e => by subst e; rw [cntB_127] at hc; omega
    have hr := rdy m hm
    rw [if_neg hne] at hr
    refine wpAny_all hr ?_ fun i hi => ?_
    · intro e
      have : cntB m = 0 := by
        unfold cntB
        have := congrArg List.length e
        simpa using this
      omega
    · obtain ⟨j, hj, rfl⟩ := List.mem_map.1 hi
      simp only [List.mem_filter, List.mem_range, Bool.not_eq_true'] at hj
      obtain ⟨hj7, hjb⟩ := hj
      obtain ⟨w', hrun, hI', hb', hs', hk'⟩ := hI.put hm hj7 hjb
      rw [lst_set m hm j hj7]
      have H := ih (m ||| 2 ^ j) (or_lt m hm j hj7) (by have := cntB_set m hm j hj7 hjb; omega) w' hI' (fun B hB => (hb B hB).trans (hb' B hB)) (hs'.trans hs) (fun k hk0 => (hk' k hk0).trans (hk k hk0))
      clear hr hi hI hI' hb hs hk hb' hs' hk' ih hQ
      have hj' : j = 0 ∨ j = 1 ∨ j = 2 ∨ j = 3 ∨ j = 4 ∨ j = 5 ∨ j = 6 := by omega
      rcases hj' with rfl | rfl | rfl | rfl | rfl | rfl | rfl
      · refine wpOp_step (o := ⟨none, .insert 36 (.tmp 3) (.const (.int .i32 (keyA 0))) (.tmp 6), 0, "desk.go:30", #[⟨0, .data⟩, ⟨3, .data⟩], none⟩) (by kernel_rfl) fun K hK => ?_
        rw [if_pos (by kernel_rfl)]
        exact ins_wp hrun rfl rfl (hK _ _ H)
      · refine wpOp_step (o := ⟨none, .insert 36 (.tmp 3) (.const (.int .i32 (keyA 1))) (.tmp 9), 0, "desk.go:30", #[⟨0, .data⟩, ⟨7, .data⟩], none⟩) (by kernel_rfl) fun K hK => ?_
        rw [if_pos (by kernel_rfl)]
        exact ins_wp hrun rfl rfl (hK _ _ H)
      · refine wpOp_step (o := ⟨none, .insert 36 (.tmp 3) (.const (.int .i32 (keyA 2))) (.tmp 12), 0, "desk.go:30", #[⟨0, .data⟩, ⟨11, .data⟩], none⟩) (by kernel_rfl) fun K hK => ?_
        rw [if_pos (by kernel_rfl)]
        exact ins_wp hrun rfl rfl (hK _ _ H)
      · refine wpOp_step (o := ⟨none, .insert 36 (.tmp 3) (.const (.int .i32 (keyA 3))) (.tmp 15), 0, "desk.go:30", #[⟨0, .data⟩, ⟨15, .data⟩], none⟩) (by kernel_rfl) fun K hK => ?_
        rw [if_pos (by kernel_rfl)]
        exact ins_wp hrun rfl rfl (hK _ _ H)
      · refine wpOp_step (o := ⟨none, .insert 36 (.tmp 3) (.const (.int .i32 (keyA 4))) (.tmp 18), 0, "desk.go:30", #[⟨0, .data⟩, ⟨19, .data⟩], none⟩) (by kernel_rfl) fun K hK => ?_
        rw [if_pos (by kernel_rfl)]
        exact ins_wp hrun rfl rfl (hK _ _ H)
      · refine wpOp_step (o := ⟨none, .insert 36 (.tmp 3) (.const (.int .i32 (keyA 5))) (.tmp 21), 0, "desk.go:30", #[⟨0, .data⟩, ⟨23, .data⟩], none⟩) (by kernel_rfl) fun K hK => ?_
        rw [if_pos (by kernel_rfl)]
        exact ins_wp hrun rfl rfl (hK _ _ H)
      · refine wpOp_step (o := ⟨none, .insert 36 (.tmp 3) (.const (.int .i32 (keyA 6))) (.tmp 24), 0, "desk.go:30", #[⟨0, .data⟩, ⟨27, .data⟩], none⟩) (by kernel_rfl) fun K hK => ?_
        rw [if_pos (by kernel_rfl)]
        exact ins_wp hrun rfl rfl (hK _ _ H)
theorem mk_wp {ty : TypeId} {pos : String} {aft : Array Edge} {a : Act} {w : World} {K : Act → World → Prop} {Q : Exit → Act → World → Prop} {M : Nat} (hM : w.heap.size = M) (h : K (a.put (some 3) (.map (some M))) (w.alloc (.map #[] 0))) :
    Oper.wp Tryd.prog ⟨some 3, .makeMap 36 none, ty, pos, aft, none⟩ a w K Q := by
  subst hM
  unfold Oper.wp execOp
  exact h
theorem val_wp {o : Oper} {a : Act} {w : World} {K : Act → World → Prop} {Q : Exit → Act → World → Prop} {v : Value} (h : (execOp a.eval o).run Tryd.prog w = .ok (.value v) w) (hk : K (a.put o.dst v) w) : Oper.wp Tryd.prog o a w K Q := by
  unfold Oper.wp
  rw [h]
  exact hk
theorem act_cast {K : Act → World → Prop} {a a' : Act} {w : World} (ha : a = a') (h : K a' w) : K a w := by subst ha; exact h
theorem wpAny_cast {P : Program} {md : Region.Mode} {ops : Array Oper} {Q : Exit → Act → World → Prop} {n : Nat} {l l' : Array Bool} {a a' : Act} {w : World} (hl : l = l') (ha : a = a') (h : wpAny P md ops Q n l' a' w) : wpAny P md ops Q n l a w := by subst hl; subst ha; exact h
theorem Tryd.mixed : Tryd.prog.follows .mixedOrders = true := by kernel_rfl
set_option maxHeartbeats 4000000 in
/-- fields: the map, in a block of its own. -/
theorem fields_c (b o : Nat) (w : World) : Calls Tryd.prog 12 #[.pointer (some ⟨b, o, none⟩)] w fun e w' =>
    e = .returned (.map (some w.heap.size)) ∧ MpI w' w.heap.size b o 127 ∧ Below w.heap.size w w' ∧ w'.heap.size = w.heap.size + 1 := by
  go_enter Tryd.func12, Tryd.ntmps12
  go_wp2_with fail
  refine wp_region_any Tryd.mixed ?_
  refine wpAny_cast (l' := Array.replicate 31 false) (a' := ⟨#[.pointer (some ⟨b, o, none⟩), undef, .map none, undef, undef, undef, undef, undef, undef, undef, undef, undef, undef, undef, undef, undef, undef, undef, undef, undef, undef, undef, undef, undef, undef, undef], []⟩) (by kernel_rfl) rfl ?_
  show wpAny Tryd.prog .any ops12 _ 31 _ _ _
  refine wpAny_take (i := 1) (oi := ⟨some 4, .move (.tmp 0), 38, "desk.go:30", #[], none⟩) (v := .pointer (some ⟨b, o, none⟩)) (by kernel_rfl) (by kernel_rfl) (by kernel_rfl) (by kernel_rfl) (fun _ _ _ h => h) (.inl ⟨by kernel_rfl, fun w => by kernel_rfl⟩) ?_
  refine wpAny_take (i := 2) (oi := ⟨some 5, .nilCheck (.tmp 4), 0, "desk.go:30", #[⟨1, .data⟩], none⟩) (v := .pointer (some ⟨b, o, none⟩)) (by kernel_rfl) (by kernel_rfl) (by kernel_rfl) (by kernel_rfl) (fun _ _ _ h => h) (.inl ⟨by kernel_rfl, fun w => by kernel_rfl⟩) ?_
  refine wpAny_take (i := 3) (oi := ⟨some 6, .fieldAddr 23 (.tmp 5) 1, 0, "desk.go:30", #[⟨2, .data⟩], none⟩) (v := ptrA b o 0) (by kernel_rfl) (by kernel_rfl) (by kernel_rfl) (by kernel_rfl) (fun _ _ _ h => h) (.inl ⟨by kernel_rfl, fun w => by kernel_rfl⟩) ?_
  refine wpAny_take (i := 5) (oi := ⟨some 7, .move (.tmp 0), 38, "desk.go:30", #[], none⟩) (v := .pointer (some ⟨b, o, none⟩)) (by kernel_rfl) (by kernel_rfl) (by kernel_rfl) (by kernel_rfl) (fun _ _ _ h => h) (.inl ⟨by kernel_rfl, fun w => by kernel_rfl⟩) ?_
  refine wpAny_take (i := 6) (oi := ⟨some 8, .nilCheck (.tmp 7), 0, "desk.go:30", #[⟨5, .data⟩], none⟩) (v := .pointer (some ⟨b, o, none⟩)) (by kernel_rfl) (by kernel_rfl) (by kernel_rfl) (by kernel_rfl) (fun _ _ _ h => h) (.inl ⟨by kernel_rfl, fun w => by kernel_rfl⟩) ?_
  refine wpAny_take (i := 7) (oi := ⟨some 9, .fieldAddr 23 (.tmp 8) 2, 0, "desk.go:30", #[⟨6, .data⟩], none⟩) (v := ptrA b o 1) (by kernel_rfl) (by kernel_rfl) (by kernel_rfl) (by kernel_rfl) (fun _ _ _ h => h) (.inl ⟨by kernel_rfl, fun w => by kernel_rfl⟩) ?_
  refine wpAny_take (i := 9) (oi := ⟨some 10, .move (.tmp 0), 38, "desk.go:30", #[], none⟩) (v := .pointer (some ⟨b, o, none⟩)) (by kernel_rfl) (by kernel_rfl) (by kernel_rfl) (by kernel_rfl) (fun _ _ _ h => h) (.inl ⟨by kernel_rfl, fun w => by kernel_rfl⟩) ?_
  refine wpAny_take (i := 10) (oi := ⟨some 11, .nilCheck (.tmp 10), 0, "desk.go:30", #[⟨9, .data⟩], none⟩) (v := .pointer (some ⟨b, o, none⟩)) (by kernel_rfl) (by kernel_rfl) (by kernel_rfl) (by kernel_rfl) (fun _ _ _ h => h) (.inl ⟨by kernel_rfl, fun w => by kernel_rfl⟩) ?_
  refine wpAny_take (i := 11) (oi := ⟨some 12, .fieldAddr 23 (.tmp 11) 3, 0, "desk.go:30", #[⟨10, .data⟩], none⟩) (v := ptrA b o 2) (by kernel_rfl) (by kernel_rfl) (by kernel_rfl) (by kernel_rfl) (fun _ _ _ h => h) (.inl ⟨by kernel_rfl, fun w => by kernel_rfl⟩) ?_
  refine wpAny_take (i := 13) (oi := ⟨some 13, .move (.tmp 0), 38, "desk.go:30", #[], none⟩) (v := .pointer (some ⟨b, o, none⟩)) (by kernel_rfl) (by kernel_rfl) (by kernel_rfl) (by kernel_rfl) (fun _ _ _ h => h) (.inl ⟨by kernel_rfl, fun w => by kernel_rfl⟩) ?_
  refine wpAny_take (i := 14) (oi := ⟨some 14, .nilCheck (.tmp 13), 0, "desk.go:30", #[⟨13, .data⟩], none⟩) (v := .pointer (some ⟨b, o, none⟩)) (by kernel_rfl) (by kernel_rfl) (by kernel_rfl) (by kernel_rfl) (fun _ _ _ h => h) (.inl ⟨by kernel_rfl, fun w => by kernel_rfl⟩) ?_
  refine wpAny_take (i := 15) (oi := ⟨some 15, .fieldAddr 23 (.tmp 14) 4, 0, "desk.go:30", #[⟨14, .data⟩], none⟩) (v := ptrA b o 3) (by kernel_rfl) (by kernel_rfl) (by kernel_rfl) (by kernel_rfl) (fun _ _ _ h => h) (.inl ⟨by kernel_rfl, fun w => by kernel_rfl⟩) ?_
  refine wpAny_take (i := 17) (oi := ⟨some 16, .move (.tmp 0), 38, "desk.go:30", #[], none⟩) (v := .pointer (some ⟨b, o, none⟩)) (by kernel_rfl) (by kernel_rfl) (by kernel_rfl) (by kernel_rfl) (fun _ _ _ h => h) (.inl ⟨by kernel_rfl, fun w => by kernel_rfl⟩) ?_
  refine wpAny_take (i := 18) (oi := ⟨some 17, .nilCheck (.tmp 16), 0, "desk.go:30", #[⟨17, .data⟩], none⟩) (v := .pointer (some ⟨b, o, none⟩)) (by kernel_rfl) (by kernel_rfl) (by kernel_rfl) (by kernel_rfl) (fun _ _ _ h => h) (.inl ⟨by kernel_rfl, fun w => by kernel_rfl⟩) ?_
  refine wpAny_take (i := 19) (oi := ⟨some 18, .fieldAddr 23 (.tmp 17) 5, 0, "desk.go:30", #[⟨18, .data⟩], none⟩) (v := ptrA b o 4) (by kernel_rfl) (by kernel_rfl) (by kernel_rfl) (by kernel_rfl) (fun _ _ _ h => h) (.inl ⟨by kernel_rfl, fun w => by kernel_rfl⟩) ?_
  refine wpAny_take (i := 21) (oi := ⟨some 19, .move (.tmp 0), 38, "desk.go:30", #[], none⟩) (v := .pointer (some ⟨b, o, none⟩)) (by kernel_rfl) (by kernel_rfl) (by kernel_rfl) (by kernel_rfl) (fun _ _ _ h => h) (.inl ⟨by kernel_rfl, fun w => by kernel_rfl⟩) ?_
  refine wpAny_take (i := 22) (oi := ⟨some 20, .nilCheck (.tmp 19), 0, "desk.go:30", #[⟨21, .data⟩], none⟩) (v := .pointer (some ⟨b, o, none⟩)) (by kernel_rfl) (by kernel_rfl) (by kernel_rfl) (by kernel_rfl) (fun _ _ _ h => h) (.inl ⟨by kernel_rfl, fun w => by kernel_rfl⟩) ?_
  refine wpAny_take (i := 23) (oi := ⟨some 21, .fieldAddr 23 (.tmp 20) 6, 0, "desk.go:30", #[⟨22, .data⟩], none⟩) (v := ptrA b o 5) (by kernel_rfl) (by kernel_rfl) (by kernel_rfl) (by kernel_rfl) (fun _ _ _ h => h) (.inl ⟨by kernel_rfl, fun w => by kernel_rfl⟩) ?_
  refine wpAny_take (i := 25) (oi := ⟨some 22, .move (.tmp 0), 38, "desk.go:30", #[], none⟩) (v := .pointer (some ⟨b, o, none⟩)) (by kernel_rfl) (by kernel_rfl) (by kernel_rfl) (by kernel_rfl) (fun _ _ _ h => h) (.inl ⟨by kernel_rfl, fun w => by kernel_rfl⟩) ?_
  refine wpAny_take (i := 26) (oi := ⟨some 23, .nilCheck (.tmp 22), 0, "desk.go:30", #[⟨25, .data⟩], none⟩) (v := .pointer (some ⟨b, o, none⟩)) (by kernel_rfl) (by kernel_rfl) (by kernel_rfl) (by kernel_rfl) (fun _ _ _ h => h) (.inl ⟨by kernel_rfl, fun w => by kernel_rfl⟩) ?_
  refine wpAny_take (i := 27) (oi := ⟨some 24, .fieldAddr 23 (.tmp 23) 7, 0, "desk.go:30", #[⟨26, .data⟩], none⟩) (v := ptrA b o 6) (by kernel_rfl) (by kernel_rfl) (by kernel_rfl) (by kernel_rfl) (fun _ _ _ h => h) (.inl ⟨by kernel_rfl, fun w => by kernel_rfl⟩) ?_
  refine wpAny_all (rs := [0]) (by kernel_rfl) (by simp) fun i hi => ?_
  obtain rfl : i = 0 := by simpa using hi
  refine wpOp_step (o := ⟨some 3, .makeMap 36 none, 36, "desk.go:30", #[], none⟩) (by kernel_rfl) fun K hK => ?_
  rw [if_pos (by kernel_rfl)]
  refine mk_wp rfl (hK _ _ ?_)
  refine wpAny_cast (l' := lst 0) (a' := act12 b o w.heap.size) (by kernel_rfl) (by kernel_rfl) ?_
  refine any_ins b o w.heap.size (w.drew.alloc (.map #[] 0)) ?_ 7 0 (by decide) (by decide +kernel) _ (MpI.made w.drew b o) (fun B _ => Below.refl _ _) rfl (fun _ _ => rfl)
  intro w2 hI hb hs hk
  refine wpAny_all (rs := [29]) (by kernel_rfl) (by simp) fun i hi => ?_
  obtain rfl : i = 29 := by simpa using hi
  refine wpOp_step (o := ops12.getD 29 default) (by kernel_rfl) fun K2 hK2 => ?_
  rw [if_pos (by kernel_rfl)]
  refine val_wp (v := .map (some w.heap.size)) (by kernel_rfl) (hK2 _ _ ?_)
  refine wpAny_all (rs := [30]) (by kernel_rfl) (by simp) fun i hi => ?_
  obtain rfl : i = 30 := by simpa using hi
  refine wpOp_step (o := ops12.getD 30 default) (by kernel_rfl) fun K3 hK3 => ?_
  rw [if_pos (by kernel_rfl)]
  refine val_wp (v := .map (some w.heap.size)) (by kernel_rfl) (hK3 _ _ ?_)
  refine wpAny_done (by kernel_rfl) ?_ 0
  refine act_cast (a' := ⟨#[.pointer (some ⟨b, o, none⟩), undef, .map (some w.heap.size), .map (some w.heap.size), .pointer (some ⟨b, o, none⟩), .pointer (some ⟨b, o, none⟩), ptrA b o 0, .pointer (some ⟨b, o, none⟩), .pointer (some ⟨b, o, none⟩), ptrA b o 1, .pointer (some ⟨b, o, none⟩), .pointer (some ⟨b, o, none⟩), ptrA b o 2, .pointer (some ⟨b, o, none⟩), .pointer (some ⟨b, o, none⟩), ptrA b o 3, .pointer (some ⟨b, o, none⟩), .pointer (some ⟨b, o, none⟩), ptrA b o 4, .pointer (some ⟨b, o, none⟩), .pointer (some ⟨b, o, none⟩), ptrA b o 5, .pointer (some ⟨b, o, none⟩), .pointer (some ⟨b, o, none⟩), ptrA b o 6, .map (some w.heap.size)], []⟩) (by kernel_rfl) ?_
  have hB : Below w.heap.size w w2 := ((show Below w.heap.size w w.drew from ⟨rfl, rfl, rfl, Nat.le_refl _, fun _ _ => rfl⟩).alloc (Nat.le_refl _) _).trans (hb _ (Nat.le_refl _))
  have hS : w2.heap.size = w.heap.size + 1 := by rw [hs]; exact Array.size_push _
  rename_i K0 h0 _ _
  show K0 _ _
  refine h0 _ _ ?_
  clear hK hK2 hK3 hb hs hk
  go_wp2
  go_ret
  exact ⟨rfl, hI, hB, hS⟩
end Go.Proofs.YtaimgddhbkcikapDoor
