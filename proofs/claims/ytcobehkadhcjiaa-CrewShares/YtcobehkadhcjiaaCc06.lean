/-
  Goroutines among others: part 6 of what the law's own text rests on.
-/
import Derived.Test.YtcobehkadhcjiaaCc05
/-
  THE OPERATIONS, and what hangs on the tape.
-/
namespace Go.Proofs.Ytcobehkadhcjiaa
open Go Go.Conc
variable [Shift]
section
variable {P : Program}
omit [Shift] in
theorem tm_typeInfo (t : TypeId) : Tm P (typeInfo t) := by
  unfold typeInfo
  (repeat' (first
    | with_reducible exact tm_pure _ | with_reducible exact tm_stuck _ | with_reducible exact tm_unsupported _ | with_reducible exact tm_goPanic _ | with_reducible exact tm_program | with_reducible exact tm_load _ _ | with_reducible exact tm_store _ _ _ | with_reducible exact tm_newObj _ | with_reducible exact tm_shape _ | with_reducible exact tm_frozen _ | with_reducible exact tm_getObj _ | with_reducible exact tm_choose _ | with_reducible exact tm_mark _
    | with_reducible refine tm_bind ?_ fun _ => ?_
    | split
    | dsimp only
    | (rename_i b; cases b <;> simp only [Bool.false_eq_true, if_false, if_true, Bool.not_false, Bool.not_true])))
omit [Shift] in
theorem tm_underlying (t : TypeId) : Tm P (underlying t) := by
  unfold underlying
  (repeat' (first
    | with_reducible exact tm_pure _ | with_reducible exact tm_stuck _ | with_reducible exact tm_unsupported _ | with_reducible exact tm_goPanic _ | with_reducible exact tm_program | with_reducible exact tm_load _ _ | with_reducible exact tm_store _ _ _ | with_reducible exact tm_newObj _ | with_reducible exact tm_shape _ | with_reducible exact tm_frozen _ | with_reducible exact tm_getObj _ | with_reducible exact tm_choose _ | with_reducible exact tm_mark _ | with_reducible exact tm_typeInfo _
    | with_reducible refine tm_bind ?_ fun _ => ?_
    | split
    | dsimp only
    | (rename_i b; cases b <;> simp only [Bool.false_eq_true, if_false, if_true, Bool.not_false, Bool.not_true])))
omit [Shift] in
theorem tm_sizeOf (t : TypeId) : Tm P (Go.sizeOf t) := by
  unfold Go.sizeOf
  (repeat' (first
    | with_reducible exact tm_pure _ | with_reducible exact tm_stuck _ | with_reducible exact tm_unsupported _ | with_reducible exact tm_goPanic _ | with_reducible exact tm_program | with_reducible exact tm_load _ _ | with_reducible exact tm_store _ _ _ | with_reducible exact tm_newObj _ | with_reducible exact tm_shape _ | with_reducible exact tm_frozen _ | with_reducible exact tm_getObj _ | with_reducible exact tm_choose _ | with_reducible exact tm_mark _ | with_reducible exact tm_typeInfo _ | with_reducible exact tm_underlying _
    | with_reducible refine tm_bind ?_ fun _ => ?_
    | split
    | dsimp only
    | (rename_i b; cases b <;> simp only [Bool.false_eq_true, if_false, if_true, Bool.not_false, Bool.not_true])))
omit [Shift] in
theorem tm_zeroValue (t : TypeId) : Tm P (zeroValue t) := by
  unfold zeroValue
  (repeat' (first
    | with_reducible exact tm_pure _ | with_reducible exact tm_stuck _ | with_reducible exact tm_unsupported _ | with_reducible exact tm_goPanic _ | with_reducible exact tm_program | with_reducible exact tm_load _ _ | with_reducible exact tm_store _ _ _ | with_reducible exact tm_newObj _ | with_reducible exact tm_shape _ | with_reducible exact tm_frozen _ | with_reducible exact tm_getObj _ | with_reducible exact tm_choose _ | with_reducible exact tm_mark _ | with_reducible exact tm_typeInfo _ | with_reducible exact tm_underlying _ | with_reducible exact tm_sizeOf _
    | with_reducible refine tm_bind ?_ fun _ => ?_
    | split
    | dsimp only
    | (rename_i b; cases b <;> simp only [Bool.false_eq_true, if_false, if_true, Bool.not_false, Bool.not_true])))
omit [Shift] in
theorem tm_isAgg (t : TypeId) : Tm P (isAgg t) := by
  unfold isAgg
  (repeat' (first
    | with_reducible exact tm_pure _ | with_reducible exact tm_stuck _ | with_reducible exact tm_unsupported _ | with_reducible exact tm_goPanic _ | with_reducible exact tm_program | with_reducible exact tm_load _ _ | with_reducible exact tm_store _ _ _ | with_reducible exact tm_newObj _ | with_reducible exact tm_shape _ | with_reducible exact tm_frozen _ | with_reducible exact tm_getObj _ | with_reducible exact tm_choose _ | with_reducible exact tm_mark _ | with_reducible exact tm_typeInfo _ | with_reducible exact tm_underlying _ | with_reducible exact tm_sizeOf _ | with_reducible exact tm_zeroValue _
    | with_reducible refine tm_bind ?_ fun _ => ?_
    | split
    | dsimp only
    | (rename_i b; cases b <;> simp only [Bool.false_eq_true, if_false, if_true, Bool.not_false, Bool.not_true])))
omit [Shift] in
theorem tm_newRow (e : TypeId) (c : Array Value) : Tm P (newRow e c) := by
  unfold newRow
  (repeat' (first
    | with_reducible exact tm_pure _ | with_reducible exact tm_stuck _ | with_reducible exact tm_unsupported _ | with_reducible exact tm_goPanic _ | with_reducible exact tm_program | with_reducible exact tm_load _ _ | with_reducible exact tm_store _ _ _ | with_reducible exact tm_newObj _ | with_reducible exact tm_shape _ | with_reducible exact tm_frozen _ | with_reducible exact tm_getObj _ | with_reducible exact tm_choose _ | with_reducible exact tm_mark _ | with_reducible exact tm_typeInfo _ | with_reducible exact tm_underlying _ | with_reducible exact tm_sizeOf _ | with_reducible exact tm_zeroValue _ | with_reducible exact tm_isAgg _
    | with_reducible refine tm_bind ?_ fun _ => ?_
    | split
    | dsimp only
    | (rename_i b; cases b <;> simp only [Bool.false_eq_true, if_false, if_true, Bool.not_false, Bool.not_true])))
omit [Shift] in
theorem tm_newVar (e : TypeId) (v : Value) : Tm P (newVar e v) := by
  unfold newVar
  (repeat' (first
    | with_reducible exact tm_pure _ | with_reducible exact tm_stuck _ | with_reducible exact tm_unsupported _ | with_reducible exact tm_goPanic _ | with_reducible exact tm_program | with_reducible exact tm_load _ _ | with_reducible exact tm_store _ _ _ | with_reducible exact tm_newObj _ | with_reducible exact tm_shape _ | with_reducible exact tm_frozen _ | with_reducible exact tm_getObj _ | with_reducible exact tm_choose _ | with_reducible exact tm_mark _ | with_reducible exact tm_typeInfo _ | with_reducible exact tm_underlying _ | with_reducible exact tm_sizeOf _ | with_reducible exact tm_zeroValue _ | with_reducible exact tm_isAgg _ | with_reducible exact tm_newRow _ _
    | with_reducible refine tm_bind ?_ fun _ => ?_
    | split
    | dsimp only
    | (rename_i b; cases b <;> simp only [Bool.false_eq_true, if_false, if_true, Bool.not_false, Bool.not_true])))
omit [Shift] in
theorem tm_elemOf (t : TypeId) : Tm P (elemOf t) := by
  unfold elemOf
  (repeat' (first
    | with_reducible exact tm_pure _ | with_reducible exact tm_stuck _ | with_reducible exact tm_unsupported _ | with_reducible exact tm_goPanic _ | with_reducible exact tm_program | with_reducible exact tm_load _ _ | with_reducible exact tm_store _ _ _ | with_reducible exact tm_newObj _ | with_reducible exact tm_shape _ | with_reducible exact tm_frozen _ | with_reducible exact tm_getObj _ | with_reducible exact tm_choose _ | with_reducible exact tm_mark _ | with_reducible exact tm_typeInfo _ | with_reducible exact tm_underlying _ | with_reducible exact tm_sizeOf _ | with_reducible exact tm_zeroValue _ | with_reducible exact tm_isAgg _ | with_reducible exact tm_newRow _ _ | with_reducible exact tm_newVar _ _
    | with_reducible refine tm_bind ?_ fun _ => ?_
    | split
    | dsimp only
    | (rename_i b; cases b <;> simp only [Bool.false_eq_true, if_false, if_true, Bool.not_false, Bool.not_true])))
omit [Shift] in
theorem tm_panicString {α : Type} (m : String) : Tm P (panicString m : Sem α) := by
  unfold panicString
  (repeat' (first
    | with_reducible exact tm_pure _ | with_reducible exact tm_stuck _ | with_reducible exact tm_unsupported _ | with_reducible exact tm_goPanic _ | with_reducible exact tm_program | with_reducible exact tm_load _ _ | with_reducible exact tm_store _ _ _ | with_reducible exact tm_newObj _ | with_reducible exact tm_shape _ | with_reducible exact tm_frozen _ | with_reducible exact tm_getObj _ | with_reducible exact tm_choose _ | with_reducible exact tm_mark _ | with_reducible exact tm_typeInfo _ | with_reducible exact tm_underlying _ | with_reducible exact tm_sizeOf _ | with_reducible exact tm_zeroValue _ | with_reducible exact tm_isAgg _ | with_reducible exact tm_newRow _ _ | with_reducible exact tm_newVar _ _ | with_reducible exact tm_elemOf _
    | with_reducible refine tm_bind ?_ fun _ => ?_
    | split
    | dsimp only
    | (rename_i b; cases b <;> simp only [Bool.false_eq_true, if_false, if_true, Bool.not_false, Bool.not_true])))
omit [Shift] in
theorem tm_runtimePanic {α : Type} (e : RuntimeError) : Tm P (runtimePanic e : Sem α) := by
  unfold runtimePanic
  (repeat' (first
    | with_reducible exact tm_pure _ | with_reducible exact tm_stuck _ | with_reducible exact tm_unsupported _ | with_reducible exact tm_goPanic _ | with_reducible exact tm_program | with_reducible exact tm_load _ _ | with_reducible exact tm_store _ _ _ | with_reducible exact tm_newObj _ | with_reducible exact tm_shape _ | with_reducible exact tm_frozen _ | with_reducible exact tm_getObj _ | with_reducible exact tm_choose _ | with_reducible exact tm_mark _ | with_reducible exact tm_typeInfo _ | with_reducible exact tm_underlying _ | with_reducible exact tm_sizeOf _ | with_reducible exact tm_zeroValue _ | with_reducible exact tm_isAgg _ | with_reducible exact tm_newRow _ _ | with_reducible exact tm_newVar _ _ | with_reducible exact tm_elemOf _ | with_reducible exact tm_panicString _
    | with_reducible refine tm_bind ?_ fun _ => ?_
    | split
    | dsimp only
    | (rename_i b; cases b <;> simp only [Bool.false_eq_true, if_false, if_true, Bool.not_false, Bool.not_true])))
omit [Shift] in
theorem tm_map {α β : Type} {s : Sem α} (f : α → β) (h : Tm P s) : Tm P (f <$> s) := by
  rw [map_eq_pure_bind]
  exact tm_bind h fun _ => tm_pure _
omit [Shift] in
theorem tm_boundsPanic {α : Type} (k : IntKind) (x y : Int) (c : BoundsCode) : Tm P (boundsPanic k x y c : Sem α) := by
  unfold boundsPanic
  (repeat' (first
    | with_reducible exact tm_pure _ | with_reducible exact tm_stuck _ | with_reducible exact tm_unsupported _ | with_reducible exact tm_goPanic _ | with_reducible exact tm_program | with_reducible exact tm_load _ _ | with_reducible exact tm_store _ _ _ | with_reducible exact tm_newObj _ | with_reducible exact tm_shape _ | with_reducible exact tm_frozen _ | with_reducible exact tm_getObj _ | with_reducible exact tm_choose _ | with_reducible exact tm_mark _ | with_reducible exact tm_typeInfo _ | with_reducible exact tm_underlying _ | with_reducible exact tm_sizeOf _ | with_reducible exact tm_zeroValue _ | with_reducible exact tm_isAgg _ | with_reducible exact tm_newRow _ _ | with_reducible exact tm_newVar _ _ | with_reducible exact tm_elemOf _ | with_reducible exact tm_panicString _ | with_reducible exact tm_runtimePanic _ | with_reducible refine tm_map _ ?_
    | with_reducible refine tm_bind ?_ fun _ => ?_
    | split
    | dsimp only
    | (rename_i b; cases b <;> simp only [Bool.false_eq_true, if_false, if_true, Bool.not_false, Bool.not_true])))
omit [Shift] in
theorem tm_asIntOf (v : Value) : Tm P (asIntOf v) := by
  unfold asIntOf
  (repeat' (first
    | with_reducible exact tm_pure _ | with_reducible exact tm_stuck _ | with_reducible exact tm_unsupported _ | with_reducible exact tm_goPanic _ | with_reducible exact tm_program | with_reducible exact tm_load _ _ | with_reducible exact tm_store _ _ _ | with_reducible exact tm_newObj _ | with_reducible exact tm_shape _ | with_reducible exact tm_frozen _ | with_reducible exact tm_getObj _ | with_reducible exact tm_choose _ | with_reducible exact tm_mark _ | with_reducible exact tm_typeInfo _ | with_reducible exact tm_underlying _ | with_reducible exact tm_sizeOf _ | with_reducible exact tm_zeroValue _ | with_reducible exact tm_isAgg _ | with_reducible exact tm_newRow _ _ | with_reducible exact tm_newVar _ _ | with_reducible exact tm_elemOf _ | with_reducible exact tm_panicString _ | with_reducible exact tm_runtimePanic _ | with_reducible refine tm_map _ ?_ | with_reducible exact tm_boundsPanic _ _ _ _
    | with_reducible refine tm_bind ?_ fun _ => ?_
    | split
    | dsimp only
    | (rename_i b; cases b <;> simp only [Bool.false_eq_true, if_false, if_true, Bool.not_false, Bool.not_true])))
omit [Shift] in
theorem tm_asInt (v : Value) : Tm P (asInt v) := by
  unfold asInt
  (repeat' (first
    | with_reducible exact tm_pure _ | with_reducible exact tm_stuck _ | with_reducible exact tm_unsupported _ | with_reducible exact tm_goPanic _ | with_reducible exact tm_program | with_reducible exact tm_load _ _ | with_reducible exact tm_store _ _ _ | with_reducible exact tm_newObj _ | with_reducible exact tm_shape _ | with_reducible exact tm_frozen _ | with_reducible exact tm_getObj _ | with_reducible exact tm_choose _ | with_reducible exact tm_mark _ | with_reducible exact tm_typeInfo _ | with_reducible exact tm_underlying _ | with_reducible exact tm_sizeOf _ | with_reducible exact tm_zeroValue _ | with_reducible exact tm_isAgg _ | with_reducible exact tm_newRow _ _ | with_reducible exact tm_newVar _ _ | with_reducible exact tm_elemOf _ | with_reducible exact tm_panicString _ | with_reducible exact tm_runtimePanic _ | with_reducible refine tm_map _ ?_ | with_reducible exact tm_boundsPanic _ _ _ _ | with_reducible exact tm_asIntOf _
    | with_reducible refine tm_bind ?_ fun _ => ?_
    | split
    | dsimp only
    | (rename_i b; cases b <;> simp only [Bool.false_eq_true, if_false, if_true, Bool.not_false, Bool.not_true])))
omit [Shift] in
theorem tm_asBool (v : Value) : Tm P (asBool v) := by
  unfold asBool
  (repeat' (first
    | with_reducible exact tm_pure _ | with_reducible exact tm_stuck _ | with_reducible exact tm_unsupported _ | with_reducible exact tm_goPanic _ | with_reducible exact tm_program | with_reducible exact tm_load _ _ | with_reducible exact tm_store _ _ _ | with_reducible exact tm_newObj _ | with_reducible exact tm_shape _ | with_reducible exact tm_frozen _ | with_reducible exact tm_getObj _ | with_reducible exact tm_choose _ | with_reducible exact tm_mark _ | with_reducible exact tm_typeInfo _ | with_reducible exact tm_underlying _ | with_reducible exact tm_sizeOf _ | with_reducible exact tm_zeroValue _ | with_reducible exact tm_isAgg _ | with_reducible exact tm_newRow _ _ | with_reducible exact tm_newVar _ _ | with_reducible exact tm_elemOf _ | with_reducible exact tm_panicString _ | with_reducible exact tm_runtimePanic _ | with_reducible refine tm_map _ ?_ | with_reducible exact tm_boundsPanic _ _ _ _ | with_reducible exact tm_asIntOf _ | with_reducible exact tm_asInt _
    | with_reducible refine tm_bind ?_ fun _ => ?_
    | split
    | dsimp only
    | (rename_i b; cases b <;> simp only [Bool.false_eq_true, if_false, if_true, Bool.not_false, Bool.not_true])))
omit [Shift] in
theorem tm_asAgg (v : Value) : Tm P (asAgg v) := by
  unfold asAgg
  (repeat' (first
    | with_reducible exact tm_pure _ | with_reducible exact tm_stuck _ | with_reducible exact tm_unsupported _ | with_reducible exact tm_goPanic _ | with_reducible exact tm_program | with_reducible exact tm_load _ _ | with_reducible exact tm_store _ _ _ | with_reducible exact tm_newObj _ | with_reducible exact tm_shape _ | with_reducible exact tm_frozen _ | with_reducible exact tm_getObj _ | with_reducible exact tm_choose _ | with_reducible exact tm_mark _ | with_reducible exact tm_typeInfo _ | with_reducible exact tm_underlying _ | with_reducible exact tm_sizeOf _ | with_reducible exact tm_zeroValue _ | with_reducible exact tm_isAgg _ | with_reducible exact tm_newRow _ _ | with_reducible exact tm_newVar _ _ | with_reducible exact tm_elemOf _ | with_reducible exact tm_panicString _ | with_reducible exact tm_runtimePanic _ | with_reducible refine tm_map _ ?_ | with_reducible exact tm_boundsPanic _ _ _ _ | with_reducible exact tm_asIntOf _ | with_reducible exact tm_asInt _ | with_reducible exact tm_asBool _
    | with_reducible refine tm_bind ?_ fun _ => ?_
    | split
    | dsimp only
    | (rename_i b; cases b <;> simp only [Bool.false_eq_true, if_false, if_true, Bool.not_false, Bool.not_true])))
omit [Shift] in
theorem tm_asAddr (v : Value) : Tm P (asAddr v) := by
  unfold asAddr
  (repeat' (first
    | with_reducible exact tm_pure _ | with_reducible exact tm_stuck _ | with_reducible exact tm_unsupported _ | with_reducible exact tm_goPanic _ | with_reducible exact tm_program | with_reducible exact tm_load _ _ | with_reducible exact tm_store _ _ _ | with_reducible exact tm_newObj _ | with_reducible exact tm_shape _ | with_reducible exact tm_frozen _ | with_reducible exact tm_getObj _ | with_reducible exact tm_choose _ | with_reducible exact tm_mark _ | with_reducible exact tm_typeInfo _ | with_reducible exact tm_underlying _ | with_reducible exact tm_sizeOf _ | with_reducible exact tm_zeroValue _ | with_reducible exact tm_isAgg _ | with_reducible exact tm_newRow _ _ | with_reducible exact tm_newVar _ _ | with_reducible exact tm_elemOf _ | with_reducible exact tm_panicString _ | with_reducible exact tm_runtimePanic _ | with_reducible refine tm_map _ ?_ | with_reducible exact tm_boundsPanic _ _ _ _ | with_reducible exact tm_asIntOf _ | with_reducible exact tm_asInt _ | with_reducible exact tm_asBool _ | with_reducible exact tm_asAgg _
    | with_reducible refine tm_bind ?_ fun _ => ?_
    | split
    | dsimp only
    | (rename_i b; cases b <;> simp only [Bool.false_eq_true, if_false, if_true, Bool.not_false, Bool.not_true])))
omit [Shift] in
theorem tm_sureAddr (v : Value) : Tm P (Instr.sureAddr v) := by
  unfold Instr.sureAddr
  (repeat' (first
    | with_reducible exact tm_pure _ | with_reducible exact tm_stuck _ | with_reducible exact tm_unsupported _ | with_reducible exact tm_goPanic _ | with_reducible exact tm_program | with_reducible exact tm_load _ _ | with_reducible exact tm_store _ _ _ | with_reducible exact tm_newObj _ | with_reducible exact tm_shape _ | with_reducible exact tm_frozen _ | with_reducible exact tm_getObj _ | with_reducible exact tm_choose _ | with_reducible exact tm_mark _ | with_reducible exact tm_typeInfo _ | with_reducible exact tm_underlying _ | with_reducible exact tm_sizeOf _ | with_reducible exact tm_zeroValue _ | with_reducible exact tm_isAgg _ | with_reducible exact tm_newRow _ _ | with_reducible exact tm_newVar _ _ | with_reducible exact tm_elemOf _ | with_reducible exact tm_panicString _ | with_reducible exact tm_runtimePanic _ | with_reducible refine tm_map _ ?_ | with_reducible exact tm_boundsPanic _ _ _ _ | with_reducible exact tm_asIntOf _ | with_reducible exact tm_asInt _ | with_reducible exact tm_asBool _ | with_reducible exact tm_asAgg _ | with_reducible exact tm_asAddr _
    | with_reducible refine tm_bind ?_ fun _ => ?_
    | split
    | dsimp only
    | (rename_i b; cases b <;> simp only [Bool.false_eq_true, if_false, if_true, Bool.not_false, Bool.not_true])))
omit [Shift] in
theorem tm_loadCellsFrom (a : Addr) : ∀ (n i : Nat) (c : Array Value), Tm P (loadCellsFrom a i n c)
  | 0, _, _ => tm_pure _
  | n + 1, i, _ => tm_bind (tm_load _ _) fun _ => tm_loadCellsFrom a n (i + 1) _
omit [Shift] in
theorem tm_loadCells (a : Addr) (n : Nat) : Tm P (loadCells a n) := tm_loadCellsFrom a n 0 #[]
omit [Shift] in
theorem tm_storeCells (a : Addr) : ∀ (l : List Value) (i : Nat), Tm P (storeCells a l i)
  | [], _ => tm_pure _
  | _ :: l, i => tm_bind (tm_store _ _ _) fun _ => tm_storeCells a l (i + 1)
omit [Shift] in
theorem tm_loadVar (t : TypeId) (a : Addr) : Tm P (loadVar t a) := by
  unfold loadVar
  (repeat' (first
    | with_reducible exact tm_pure _ | with_reducible exact tm_stuck _ | with_reducible exact tm_unsupported _ | with_reducible exact tm_goPanic _ | with_reducible exact tm_program | with_reducible exact tm_load _ _ | with_reducible exact tm_store _ _ _ | with_reducible exact tm_newObj _ | with_reducible exact tm_shape _ | with_reducible exact tm_frozen _ | with_reducible exact tm_getObj _ | with_reducible exact tm_choose _ | with_reducible exact tm_mark _ | with_reducible exact tm_typeInfo _ | with_reducible exact tm_underlying _ | with_reducible exact tm_sizeOf _ | with_reducible exact tm_zeroValue _ | with_reducible exact tm_isAgg _ | with_reducible exact tm_newRow _ _ | with_reducible exact tm_newVar _ _ | with_reducible exact tm_elemOf _ | with_reducible exact tm_panicString _ | with_reducible exact tm_runtimePanic _ | with_reducible refine tm_map _ ?_ | with_reducible exact tm_boundsPanic _ _ _ _ | with_reducible exact tm_asIntOf _ | with_reducible exact tm_asInt _ | with_reducible exact tm_asBool _ | with_reducible exact tm_asAgg _ | with_reducible exact tm_asAddr _ | with_reducible exact tm_sureAddr _ | with_reducible exact tm_loadCells _ _ | with_reducible exact tm_storeCells _ _ _
    | with_reducible refine tm_bind ?_ fun _ => ?_
    | split
    | dsimp only
    | (rename_i b; cases b <;> simp only [Bool.false_eq_true, if_false, if_true, Bool.not_false, Bool.not_true])))
omit [Shift] in
theorem tm_storeVar (t : TypeId) (a : Addr) (v : Value) : Tm P (storeVar t a v) := by
  unfold storeVar
  (repeat' (first
    | with_reducible exact tm_pure _ | with_reducible exact tm_stuck _ | with_reducible exact tm_unsupported _ | with_reducible exact tm_goPanic _ | with_reducible exact tm_program | with_reducible exact tm_load _ _ | with_reducible exact tm_store _ _ _ | with_reducible exact tm_newObj _ | with_reducible exact tm_shape _ | with_reducible exact tm_frozen _ | with_reducible exact tm_getObj _ | with_reducible exact tm_choose _ | with_reducible exact tm_mark _ | with_reducible exact tm_typeInfo _ | with_reducible exact tm_underlying _ | with_reducible exact tm_sizeOf _ | with_reducible exact tm_zeroValue _ | with_reducible exact tm_isAgg _ | with_reducible exact tm_newRow _ _ | with_reducible exact tm_newVar _ _ | with_reducible exact tm_elemOf _ | with_reducible exact tm_panicString _ | with_reducible exact tm_runtimePanic _ | with_reducible refine tm_map _ ?_ | with_reducible exact tm_boundsPanic _ _ _ _ | with_reducible exact tm_asIntOf _ | with_reducible exact tm_asInt _ | with_reducible exact tm_asBool _ | with_reducible exact tm_asAgg _ | with_reducible exact tm_asAddr _ | with_reducible exact tm_sureAddr _ | with_reducible exact tm_loadCells _ _ | with_reducible exact tm_storeCells _ _ _ | with_reducible exact tm_loadVar _ _
    | with_reducible refine tm_bind ?_ fun _ => ?_
    | split
    | dsimp only
    | (rename_i b; cases b <;> simp only [Bool.false_eq_true, if_false, if_true, Bool.not_false, Bool.not_true])))
omit [Shift] in
theorem tm_part (t : TypeId) (c : Array Value) (o : Nat) : Tm P (part t c o) := by
  unfold part
  (repeat' (first
    | with_reducible exact tm_pure _ | with_reducible exact tm_stuck _ | with_reducible exact tm_unsupported _ | with_reducible exact tm_goPanic _ | with_reducible exact tm_program | with_reducible exact tm_load _ _ | with_reducible exact tm_store _ _ _ | with_reducible exact tm_newObj _ | with_reducible exact tm_shape _ | with_reducible exact tm_frozen _ | with_reducible exact tm_getObj _ | with_reducible exact tm_choose _ | with_reducible exact tm_mark _ | with_reducible exact tm_typeInfo _ | with_reducible exact tm_underlying _ | with_reducible exact tm_sizeOf _ | with_reducible exact tm_zeroValue _ | with_reducible exact tm_isAgg _ | with_reducible exact tm_newRow _ _ | with_reducible exact tm_newVar _ _ | with_reducible exact tm_elemOf _ | with_reducible exact tm_panicString _ | with_reducible exact tm_runtimePanic _ | with_reducible refine tm_map _ ?_ | with_reducible exact tm_boundsPanic _ _ _ _ | with_reducible exact tm_asIntOf _ | with_reducible exact tm_asInt _ | with_reducible exact tm_asBool _ | with_reducible exact tm_asAgg _ | with_reducible exact tm_asAddr _ | with_reducible exact tm_sureAddr _ | with_reducible exact tm_loadCells _ _ | with_reducible exact tm_storeCells _ _ _ | with_reducible exact tm_loadVar _ _ | with_reducible exact tm_storeVar _ _ _
    | with_reducible refine tm_bind ?_ fun _ => ?_
    | split
    | dsimp only
    | (rename_i b; cases b <;> simp only [Bool.false_eq_true, if_false, if_true, Bool.not_false, Bool.not_true])))
omit [Shift] in
theorem tm_askRoom (n : Nat) : Tm P (askRoom n) := by
  unfold askRoom
  (repeat' (first
    | with_reducible exact tm_pure _ | with_reducible exact tm_stuck _ | with_reducible exact tm_unsupported _ | with_reducible exact tm_goPanic _ | with_reducible exact tm_program | with_reducible exact tm_load _ _ | with_reducible exact tm_store _ _ _ | with_reducible exact tm_newObj _ | with_reducible exact tm_shape _ | with_reducible exact tm_frozen _ | with_reducible exact tm_getObj _ | with_reducible exact tm_choose _ | with_reducible exact tm_mark _ | with_reducible exact tm_typeInfo _ | with_reducible exact tm_underlying _ | with_reducible exact tm_sizeOf _ | with_reducible exact tm_zeroValue _ | with_reducible exact tm_isAgg _ | with_reducible exact tm_newRow _ _ | with_reducible exact tm_newVar _ _ | with_reducible exact tm_elemOf _ | with_reducible exact tm_panicString _ | with_reducible exact tm_runtimePanic _ | with_reducible refine tm_map _ ?_ | with_reducible exact tm_boundsPanic _ _ _ _ | with_reducible exact tm_asIntOf _ | with_reducible exact tm_asInt _ | with_reducible exact tm_asBool _ | with_reducible exact tm_asAgg _ | with_reducible exact tm_asAddr _ | with_reducible exact tm_sureAddr _ | with_reducible exact tm_loadCells _ _ | with_reducible exact tm_storeCells _ _ _ | with_reducible exact tm_loadVar _ _ | with_reducible exact tm_storeVar _ _ _ | with_reducible exact tm_part _ _ _
    | with_reducible refine tm_bind ?_ fun _ => ?_
    | split
    | dsimp only
    | (rename_i b; cases b <;> simp only [Bool.false_eq_true, if_false, if_true, Bool.not_false, Bool.not_true])))
omit [Shift] in
theorem tm_viewAt (r : Nat) : Tm P (viewAt r) := by
  unfold viewAt
  (repeat' (first
    | with_reducible exact tm_pure _ | with_reducible exact tm_stuck _ | with_reducible exact tm_unsupported _ | with_reducible exact tm_goPanic _ | with_reducible exact tm_program | with_reducible exact tm_load _ _ | with_reducible exact tm_store _ _ _ | with_reducible exact tm_newObj _ | with_reducible exact tm_shape _ | with_reducible exact tm_frozen _ | with_reducible exact tm_getObj _ | with_reducible exact tm_choose _ | with_reducible exact tm_mark _ | with_reducible exact tm_typeInfo _ | with_reducible exact tm_underlying _ | with_reducible exact tm_sizeOf _ | with_reducible exact tm_zeroValue _ | with_reducible exact tm_isAgg _ | with_reducible exact tm_newRow _ _ | with_reducible exact tm_newVar _ _ | with_reducible exact tm_elemOf _ | with_reducible exact tm_panicString _ | with_reducible exact tm_runtimePanic _ | with_reducible refine tm_map _ ?_ | with_reducible exact tm_boundsPanic _ _ _ _ | with_reducible exact tm_asIntOf _ | with_reducible exact tm_asInt _ | with_reducible exact tm_asBool _ | with_reducible exact tm_asAgg _ | with_reducible exact tm_asAddr _ | with_reducible exact tm_sureAddr _ | with_reducible exact tm_loadCells _ _ | with_reducible exact tm_storeCells _ _ _ | with_reducible exact tm_loadVar _ _ | with_reducible exact tm_storeVar _ _ _ | with_reducible exact tm_part _ _ _ | with_reducible exact tm_askRoom _
    | with_reducible refine tm_bind ?_ fun _ => ?_
    | split
    | dsimp only
    | (rename_i b; cases b <;> simp only [Bool.false_eq_true, if_false, if_true, Bool.not_false, Bool.not_true])))
omit [Shift] in
theorem tm_numberAt (r : Nat) : Tm P (numberAt r) := by
  unfold numberAt
  (repeat' (first
    | with_reducible exact tm_pure _ | with_reducible exact tm_stuck _ | with_reducible exact tm_unsupported _ | with_reducible exact tm_goPanic _ | with_reducible exact tm_program | with_reducible exact tm_load _ _ | with_reducible exact tm_store _ _ _ | with_reducible exact tm_newObj _ | with_reducible exact tm_shape _ | with_reducible exact tm_frozen _ | with_reducible exact tm_getObj _ | with_reducible exact tm_choose _ | with_reducible exact tm_mark _ | with_reducible exact tm_typeInfo _ | with_reducible exact tm_underlying _ | with_reducible exact tm_sizeOf _ | with_reducible exact tm_zeroValue _ | with_reducible exact tm_isAgg _ | with_reducible exact tm_newRow _ _ | with_reducible exact tm_newVar _ _ | with_reducible exact tm_elemOf _ | with_reducible exact tm_panicString _ | with_reducible exact tm_runtimePanic _ | with_reducible refine tm_map _ ?_ | with_reducible exact tm_boundsPanic _ _ _ _ | with_reducible exact tm_asIntOf _ | with_reducible exact tm_asInt _ | with_reducible exact tm_asBool _ | with_reducible exact tm_asAgg _ | with_reducible exact tm_asAddr _ | with_reducible exact tm_sureAddr _ | with_reducible exact tm_loadCells _ _ | with_reducible exact tm_storeCells _ _ _ | with_reducible exact tm_loadVar _ _ | with_reducible exact tm_storeVar _ _ _ | with_reducible exact tm_part _ _ _ | with_reducible exact tm_askRoom _ | with_reducible exact tm_viewAt _
    | with_reducible refine tm_bind ?_ fun _ => ?_
    | split
    | dsimp only
    | (rename_i b; cases b <;> simp only [Bool.false_eq_true, if_false, if_true, Bool.not_false, Bool.not_true])))
omit [Shift] in
theorem tm_behindNumber (a : Addr) : Tm P (behindNumber a) := by
  unfold behindNumber
  (repeat' (first
    | with_reducible exact tm_pure _ | with_reducible exact tm_stuck _ | with_reducible exact tm_unsupported _ | with_reducible exact tm_goPanic _ | with_reducible exact tm_program | with_reducible exact tm_load _ _ | with_reducible exact tm_store _ _ _ | with_reducible exact tm_newObj _ | with_reducible exact tm_shape _ | with_reducible exact tm_frozen _ | with_reducible exact tm_getObj _ | with_reducible exact tm_choose _ | with_reducible exact tm_mark _ | with_reducible exact tm_typeInfo _ | with_reducible exact tm_underlying _ | with_reducible exact tm_sizeOf _ | with_reducible exact tm_zeroValue _ | with_reducible exact tm_isAgg _ | with_reducible exact tm_newRow _ _ | with_reducible exact tm_newVar _ _ | with_reducible exact tm_elemOf _ | with_reducible exact tm_panicString _ | with_reducible exact tm_runtimePanic _ | with_reducible refine tm_map _ ?_ | with_reducible exact tm_boundsPanic _ _ _ _ | with_reducible exact tm_asIntOf _ | with_reducible exact tm_asInt _ | with_reducible exact tm_asBool _ | with_reducible exact tm_asAgg _ | with_reducible exact tm_asAddr _ | with_reducible exact tm_sureAddr _ | with_reducible exact tm_loadCells _ _ | with_reducible exact tm_storeCells _ _ _ | with_reducible exact tm_loadVar _ _ | with_reducible exact tm_storeVar _ _ _ | with_reducible exact tm_part _ _ _ | with_reducible exact tm_askRoom _ | with_reducible exact tm_viewAt _ | with_reducible exact tm_numberAt _
    | with_reducible refine tm_bind ?_ fun _ => ?_
    | split
    | dsimp only
    | (rename_i b; cases b <;> simp only [Bool.false_eq_true, if_false, if_true, Bool.not_false, Bool.not_true])))
omit [Shift] in
theorem tm_asNumber (a : Addr) (l : Bool) : Tm P (asNumber a l) := by
  unfold asNumber
  (repeat' (first
    | with_reducible exact tm_pure _ | with_reducible exact tm_stuck _ | with_reducible exact tm_unsupported _ | with_reducible exact tm_goPanic _ | with_reducible exact tm_program | with_reducible exact tm_load _ _ | with_reducible exact tm_store _ _ _ | with_reducible exact tm_newObj _ | with_reducible exact tm_shape _ | with_reducible exact tm_frozen _ | with_reducible exact tm_getObj _ | with_reducible exact tm_choose _ | with_reducible exact tm_mark _ | with_reducible exact tm_typeInfo _ | with_reducible exact tm_underlying _ | with_reducible exact tm_sizeOf _ | with_reducible exact tm_zeroValue _ | with_reducible exact tm_isAgg _ | with_reducible exact tm_newRow _ _ | with_reducible exact tm_newVar _ _ | with_reducible exact tm_elemOf _ | with_reducible exact tm_panicString _ | with_reducible exact tm_runtimePanic _ | with_reducible refine tm_map _ ?_ | with_reducible exact tm_boundsPanic _ _ _ _ | with_reducible exact tm_asIntOf _ | with_reducible exact tm_asInt _ | with_reducible exact tm_asBool _ | with_reducible exact tm_asAgg _ | with_reducible exact tm_asAddr _ | with_reducible exact tm_sureAddr _ | with_reducible exact tm_loadCells _ _ | with_reducible exact tm_storeCells _ _ _ | with_reducible exact tm_loadVar _ _ | with_reducible exact tm_storeVar _ _ _ | with_reducible exact tm_part _ _ _ | with_reducible exact tm_askRoom _ | with_reducible exact tm_viewAt _ | with_reducible exact tm_numberAt _ | with_reducible exact tm_behindNumber _
    | with_reducible refine tm_bind ?_ fun _ => ?_
    | split
    | dsimp only
    | (rename_i b; cases b <;> simp only [Bool.false_eq_true, if_false, if_true, Bool.not_false, Bool.not_true])))
omit [Shift] in
theorem tm_noView (a : Addr) : Tm P (noView a) := by
  unfold noView
  (repeat' (first
    | with_reducible exact tm_pure _ | with_reducible exact tm_stuck _ | with_reducible exact tm_unsupported _ | with_reducible exact tm_goPanic _ | with_reducible exact tm_program | with_reducible exact tm_load _ _ | with_reducible exact tm_store _ _ _ | with_reducible exact tm_newObj _ | with_reducible exact tm_shape _ | with_reducible exact tm_frozen _ | with_reducible exact tm_getObj _ | with_reducible exact tm_choose _ | with_reducible exact tm_mark _ | with_reducible exact tm_typeInfo _ | with_reducible exact tm_underlying _ | with_reducible exact tm_sizeOf _ | with_reducible exact tm_zeroValue _ | with_reducible exact tm_isAgg _ | with_reducible exact tm_newRow _ _ | with_reducible exact tm_newVar _ _ | with_reducible exact tm_elemOf _ | with_reducible exact tm_panicString _ | with_reducible exact tm_runtimePanic _ | with_reducible refine tm_map _ ?_ | with_reducible exact tm_boundsPanic _ _ _ _ | with_reducible exact tm_asIntOf _ | with_reducible exact tm_asInt _ | with_reducible exact tm_asBool _ | with_reducible exact tm_asAgg _ | with_reducible exact tm_asAddr _ | with_reducible exact tm_sureAddr _ | with_reducible exact tm_loadCells _ _ | with_reducible exact tm_storeCells _ _ _ | with_reducible exact tm_loadVar _ _ | with_reducible exact tm_storeVar _ _ _ | with_reducible exact tm_part _ _ _ | with_reducible exact tm_askRoom _ | with_reducible exact tm_viewAt _ | with_reducible exact tm_numberAt _ | with_reducible exact tm_behindNumber _ | with_reducible exact tm_asNumber _ _
    | with_reducible refine tm_bind ?_ fun _ => ?_
    | split
    | dsimp only
    | (rename_i b; cases b <;> simp only [Bool.false_eq_true, if_false, if_true, Bool.not_false, Bool.not_true])))
omit [Shift] in
theorem tm_stringish (a : Addr) : Tm P (stringish a) := by
  unfold stringish
  (repeat' (first
    | with_reducible exact tm_pure _ | with_reducible exact tm_stuck _ | with_reducible exact tm_unsupported _ | with_reducible exact tm_goPanic _ | with_reducible exact tm_program | with_reducible exact tm_load _ _ | with_reducible exact tm_store _ _ _ | with_reducible exact tm_newObj _ | with_reducible exact tm_shape _ | with_reducible exact tm_frozen _ | with_reducible exact tm_getObj _ | with_reducible exact tm_choose _ | with_reducible exact tm_mark _ | with_reducible exact tm_typeInfo _ | with_reducible exact tm_underlying _ | with_reducible exact tm_sizeOf _ | with_reducible exact tm_zeroValue _ | with_reducible exact tm_isAgg _ | with_reducible exact tm_newRow _ _ | with_reducible exact tm_newVar _ _ | with_reducible exact tm_elemOf _ | with_reducible exact tm_panicString _ | with_reducible exact tm_runtimePanic _ | with_reducible refine tm_map _ ?_ | with_reducible exact tm_boundsPanic _ _ _ _ | with_reducible exact tm_asIntOf _ | with_reducible exact tm_asInt _ | with_reducible exact tm_asBool _ | with_reducible exact tm_asAgg _ | with_reducible exact tm_asAddr _ | with_reducible exact tm_sureAddr _ | with_reducible exact tm_loadCells _ _ | with_reducible exact tm_storeCells _ _ _ | with_reducible exact tm_loadVar _ _ | with_reducible exact tm_storeVar _ _ _ | with_reducible exact tm_part _ _ _ | with_reducible exact tm_askRoom _ | with_reducible exact tm_viewAt _ | with_reducible exact tm_numberAt _ | with_reducible exact tm_behindNumber _ | with_reducible exact tm_asNumber _ _ | with_reducible exact tm_noView _
    | with_reducible refine tm_bind ?_ fun _ => ?_
    | split
    | dsimp only
    | (rename_i b; cases b <;> simp only [Bool.false_eq_true, if_false, if_true, Bool.not_false, Bool.not_true])))
omit [Shift] in
theorem tm_mayBeOne (a b : Addr) : Tm P (mayBeOne a b) := by
  unfold mayBeOne
  (repeat' (first
    | with_reducible exact tm_pure _ | with_reducible exact tm_stuck _ | with_reducible exact tm_unsupported _ | with_reducible exact tm_goPanic _ | with_reducible exact tm_program | with_reducible exact tm_load _ _ | with_reducible exact tm_store _ _ _ | with_reducible exact tm_newObj _ | with_reducible exact tm_shape _ | with_reducible exact tm_frozen _ | with_reducible exact tm_getObj _ | with_reducible exact tm_choose _ | with_reducible exact tm_mark _ | with_reducible exact tm_typeInfo _ | with_reducible exact tm_underlying _ | with_reducible exact tm_sizeOf _ | with_reducible exact tm_zeroValue _ | with_reducible exact tm_isAgg _ | with_reducible exact tm_newRow _ _ | with_reducible exact tm_newVar _ _ | with_reducible exact tm_elemOf _ | with_reducible exact tm_panicString _ | with_reducible exact tm_runtimePanic _ | with_reducible refine tm_map _ ?_ | with_reducible exact tm_boundsPanic _ _ _ _ | with_reducible exact tm_asIntOf _ | with_reducible exact tm_asInt _ | with_reducible exact tm_asBool _ | with_reducible exact tm_asAgg _ | with_reducible exact tm_asAddr _ | with_reducible exact tm_sureAddr _ | with_reducible exact tm_loadCells _ _ | with_reducible exact tm_storeCells _ _ _ | with_reducible exact tm_loadVar _ _ | with_reducible exact tm_storeVar _ _ _ | with_reducible exact tm_part _ _ _ | with_reducible exact tm_askRoom _ | with_reducible exact tm_viewAt _ | with_reducible exact tm_numberAt _ | with_reducible exact tm_behindNumber _ | with_reducible exact tm_asNumber _ _ | with_reducible exact tm_noView _ | with_reducible exact tm_stringish _
    | with_reducible refine tm_bind ?_ fun _ => ?_
    | split
    | dsimp only
    | (rename_i b; cases b <;> simp only [Bool.false_eq_true, if_false, if_true, Bool.not_false, Bool.not_true])))
omit [Shift] in
theorem tm_sameAddr (a b : Addr) : Tm P (sameAddr a b) := by
  unfold sameAddr
  (repeat' (first
    | with_reducible exact tm_pure _ | with_reducible exact tm_stuck _ | with_reducible exact tm_unsupported _ | with_reducible exact tm_goPanic _ | with_reducible exact tm_program | with_reducible exact tm_load _ _ | with_reducible exact tm_store _ _ _ | with_reducible exact tm_newObj _ | with_reducible exact tm_shape _ | with_reducible exact tm_frozen _ | with_reducible exact tm_getObj _ | with_reducible exact tm_choose _ | with_reducible exact tm_mark _ | with_reducible exact tm_typeInfo _ | with_reducible exact tm_underlying _ | with_reducible exact tm_sizeOf _ | with_reducible exact tm_zeroValue _ | with_reducible exact tm_isAgg _ | with_reducible exact tm_newRow _ _ | with_reducible exact tm_newVar _ _ | with_reducible exact tm_elemOf _ | with_reducible exact tm_panicString _ | with_reducible exact tm_runtimePanic _ | with_reducible refine tm_map _ ?_ | with_reducible exact tm_boundsPanic _ _ _ _ | with_reducible exact tm_asIntOf _ | with_reducible exact tm_asInt _ | with_reducible exact tm_asBool _ | with_reducible exact tm_asAgg _ | with_reducible exact tm_asAddr _ | with_reducible exact tm_sureAddr _ | with_reducible exact tm_loadCells _ _ | with_reducible exact tm_storeCells _ _ _ | with_reducible exact tm_loadVar _ _ | with_reducible exact tm_storeVar _ _ _ | with_reducible exact tm_part _ _ _ | with_reducible exact tm_askRoom _ | with_reducible exact tm_viewAt _ | with_reducible exact tm_numberAt _ | with_reducible exact tm_behindNumber _ | with_reducible exact tm_asNumber _ _ | with_reducible exact tm_noView _ | with_reducible exact tm_stringish _ | with_reducible exact tm_mayBeOne _ _
    | with_reducible refine tm_bind ?_ fun _ => ?_
    | split
    | dsimp only
    | (rename_i b; cases b <;> simp only [Bool.false_eq_true, if_false, if_true, Bool.not_false, Bool.not_true])))
omit [Shift] in
theorem tm_samePointer (a b : Option Addr) : Tm P (samePointer a b) := by
  unfold samePointer
  (repeat' (first
    | with_reducible exact tm_pure _ | with_reducible exact tm_stuck _ | with_reducible exact tm_unsupported _ | with_reducible exact tm_goPanic _ | with_reducible exact tm_program | with_reducible exact tm_load _ _ | with_reducible exact tm_store _ _ _ | with_reducible exact tm_newObj _ | with_reducible exact tm_shape _ | with_reducible exact tm_frozen _ | with_reducible exact tm_getObj _ | with_reducible exact tm_choose _ | with_reducible exact tm_mark _ | with_reducible exact tm_typeInfo _ | with_reducible exact tm_underlying _ | with_reducible exact tm_sizeOf _ | with_reducible exact tm_zeroValue _ | with_reducible exact tm_isAgg _ | with_reducible exact tm_newRow _ _ | with_reducible exact tm_newVar _ _ | with_reducible exact tm_elemOf _ | with_reducible exact tm_panicString _ | with_reducible exact tm_runtimePanic _ | with_reducible refine tm_map _ ?_ | with_reducible exact tm_boundsPanic _ _ _ _ | with_reducible exact tm_asIntOf _ | with_reducible exact tm_asInt _ | with_reducible exact tm_asBool _ | with_reducible exact tm_asAgg _ | with_reducible exact tm_asAddr _ | with_reducible exact tm_sureAddr _ | with_reducible exact tm_loadCells _ _ | with_reducible exact tm_storeCells _ _ _ | with_reducible exact tm_loadVar _ _ | with_reducible exact tm_storeVar _ _ _ | with_reducible exact tm_part _ _ _ | with_reducible exact tm_askRoom _ | with_reducible exact tm_viewAt _ | with_reducible exact tm_numberAt _ | with_reducible exact tm_behindNumber _ | with_reducible exact tm_asNumber _ _ | with_reducible exact tm_noView _ | with_reducible exact tm_stringish _ | with_reducible exact tm_mayBeOne _ _ | with_reducible exact tm_sameAddr _ _
    | with_reducible refine tm_bind ?_ fun _ => ?_
    | split
    | dsimp only
    | (rename_i b; cases b <;> simp only [Bool.false_eq_true, if_false, if_true, Bool.not_false, Bool.not_true])))
omit [Shift] in
theorem tm_byteOf (a : Addr) : Tm P (byteOf a) := by
  unfold byteOf
  (repeat' (first
    | with_reducible exact tm_pure _ | with_reducible exact tm_stuck _ | with_reducible exact tm_unsupported _ | with_reducible exact tm_goPanic _ | with_reducible exact tm_program | with_reducible exact tm_load _ _ | with_reducible exact tm_store _ _ _ | with_reducible exact tm_newObj _ | with_reducible exact tm_shape _ | with_reducible exact tm_frozen _ | with_reducible exact tm_getObj _ | with_reducible exact tm_choose _ | with_reducible exact tm_mark _ | with_reducible exact tm_typeInfo _ | with_reducible exact tm_underlying _ | with_reducible exact tm_sizeOf _ | with_reducible exact tm_zeroValue _ | with_reducible exact tm_isAgg _ | with_reducible exact tm_newRow _ _ | with_reducible exact tm_newVar _ _ | with_reducible exact tm_elemOf _ | with_reducible exact tm_panicString _ | with_reducible exact tm_runtimePanic _ | with_reducible refine tm_map _ ?_ | with_reducible exact tm_boundsPanic _ _ _ _ | with_reducible exact tm_asIntOf _ | with_reducible exact tm_asInt _ | with_reducible exact tm_asBool _ | with_reducible exact tm_asAgg _ | with_reducible exact tm_asAddr _ | with_reducible exact tm_sureAddr _ | with_reducible exact tm_loadCells _ _ | with_reducible exact tm_storeCells _ _ _ | with_reducible exact tm_loadVar _ _ | with_reducible exact tm_storeVar _ _ _ | with_reducible exact tm_part _ _ _ | with_reducible exact tm_askRoom _ | with_reducible exact tm_viewAt _ | with_reducible exact tm_numberAt _ | with_reducible exact tm_behindNumber _ | with_reducible exact tm_asNumber _ _ | with_reducible exact tm_noView _ | with_reducible exact tm_stringish _ | with_reducible exact tm_mayBeOne _ _ | with_reducible exact tm_sameAddr _ _ | with_reducible exact tm_samePointer _ _
    | with_reducible refine tm_bind ?_ fun _ => ?_
    | split
    | dsimp only
    | (rename_i b; cases b <;> simp only [Bool.false_eq_true, if_false, if_true, Bool.not_false, Bool.not_true])))
omit [Shift] in
theorem tm_partAt (a : Addr) (b c : Nat) : Tm P (partAt a b c) := by
  unfold partAt
  (repeat' (first
    | with_reducible exact tm_pure _ | with_reducible exact tm_stuck _ | with_reducible exact tm_unsupported _ | with_reducible exact tm_goPanic _ | with_reducible exact tm_program | with_reducible exact tm_load _ _ | with_reducible exact tm_store _ _ _ | with_reducible exact tm_newObj _ | with_reducible exact tm_shape _ | with_reducible exact tm_frozen _ | with_reducible exact tm_getObj _ | with_reducible exact tm_choose _ | with_reducible exact tm_mark _ | with_reducible exact tm_typeInfo _ | with_reducible exact tm_underlying _ | with_reducible exact tm_sizeOf _ | with_reducible exact tm_zeroValue _ | with_reducible exact tm_isAgg _ | with_reducible exact tm_newRow _ _ | with_reducible exact tm_newVar _ _ | with_reducible exact tm_elemOf _ | with_reducible exact tm_panicString _ | with_reducible exact tm_runtimePanic _ | with_reducible refine tm_map _ ?_ | with_reducible exact tm_boundsPanic _ _ _ _ | with_reducible exact tm_asIntOf _ | with_reducible exact tm_asInt _ | with_reducible exact tm_asBool _ | with_reducible exact tm_asAgg _ | with_reducible exact tm_asAddr _ | with_reducible exact tm_sureAddr _ | with_reducible exact tm_loadCells _ _ | with_reducible exact tm_storeCells _ _ _ | with_reducible exact tm_loadVar _ _ | with_reducible exact tm_storeVar _ _ _ | with_reducible exact tm_part _ _ _ | with_reducible exact tm_askRoom _ | with_reducible exact tm_viewAt _ | with_reducible exact tm_numberAt _ | with_reducible exact tm_behindNumber _ | with_reducible exact tm_asNumber _ _ | with_reducible exact tm_noView _ | with_reducible exact tm_stringish _ | with_reducible exact tm_mayBeOne _ _ | with_reducible exact tm_sameAddr _ _ | with_reducible exact tm_samePointer _ _ | with_reducible exact tm_byteOf _
    | with_reducible refine tm_bind ?_ fun _ => ?_
    | split
    | dsimp only
    | (rename_i b; cases b <;> simp only [Bool.false_eq_true, if_false, if_true, Bool.not_false, Bool.not_true])))
omit [Shift] in
theorem tm_fieldPlace (a : Addr) (f : Field) : Tm P (fieldPlace a f) := by
  unfold fieldPlace
  (repeat' (first
    | with_reducible exact tm_pure _ | with_reducible exact tm_stuck _ | with_reducible exact tm_unsupported _ | with_reducible exact tm_goPanic _ | with_reducible exact tm_program | with_reducible exact tm_load _ _ | with_reducible exact tm_store _ _ _ | with_reducible exact tm_newObj _ | with_reducible exact tm_shape _ | with_reducible exact tm_frozen _ | with_reducible exact tm_getObj _ | with_reducible exact tm_choose _ | with_reducible exact tm_mark _ | with_reducible exact tm_typeInfo _ | with_reducible exact tm_underlying _ | with_reducible exact tm_sizeOf _ | with_reducible exact tm_zeroValue _ | with_reducible exact tm_isAgg _ | with_reducible exact tm_newRow _ _ | with_reducible exact tm_newVar _ _ | with_reducible exact tm_elemOf _ | with_reducible exact tm_panicString _ | with_reducible exact tm_runtimePanic _ | with_reducible refine tm_map _ ?_ | with_reducible exact tm_boundsPanic _ _ _ _ | with_reducible exact tm_asIntOf _ | with_reducible exact tm_asInt _ | with_reducible exact tm_asBool _ | with_reducible exact tm_asAgg _ | with_reducible exact tm_asAddr _ | with_reducible exact tm_sureAddr _ | with_reducible exact tm_loadCells _ _ | with_reducible exact tm_storeCells _ _ _ | with_reducible exact tm_loadVar _ _ | with_reducible exact tm_storeVar _ _ _ | with_reducible exact tm_part _ _ _ | with_reducible exact tm_askRoom _ | with_reducible exact tm_viewAt _ | with_reducible exact tm_numberAt _ | with_reducible exact tm_behindNumber _ | with_reducible exact tm_asNumber _ _ | with_reducible exact tm_noView _ | with_reducible exact tm_stringish _ | with_reducible exact tm_mayBeOne _ _ | with_reducible exact tm_sameAddr _ _ | with_reducible exact tm_samePointer _ _ | with_reducible exact tm_byteOf _ | with_reducible exact tm_partAt _ _ _
    | with_reducible refine tm_bind ?_ fun _ => ?_
    | split
    | dsimp only
    | (rename_i b; cases b <;> simp only [Bool.false_eq_true, if_false, if_true, Bool.not_false, Bool.not_true])))
omit [Shift] in
theorem tm_loadAt (t : TypeId) (v : Value) : Tm P (Instr.loadAt t v) := by
  unfold Instr.loadAt
  (repeat' (first
    | with_reducible exact tm_pure _ | with_reducible exact tm_stuck _ | with_reducible exact tm_unsupported _ | with_reducible exact tm_goPanic _ | with_reducible exact tm_program | with_reducible exact tm_load _ _ | with_reducible exact tm_store _ _ _ | with_reducible exact tm_newObj _ | with_reducible exact tm_shape _ | with_reducible exact tm_frozen _ | with_reducible exact tm_getObj _ | with_reducible exact tm_choose _ | with_reducible exact tm_mark _ | with_reducible exact tm_typeInfo _ | with_reducible exact tm_underlying _ | with_reducible exact tm_sizeOf _ | with_reducible exact tm_zeroValue _ | with_reducible exact tm_isAgg _ | with_reducible exact tm_newRow _ _ | with_reducible exact tm_newVar _ _ | with_reducible exact tm_elemOf _ | with_reducible exact tm_panicString _ | with_reducible exact tm_runtimePanic _ | with_reducible refine tm_map _ ?_ | with_reducible exact tm_boundsPanic _ _ _ _ | with_reducible exact tm_asIntOf _ | with_reducible exact tm_asInt _ | with_reducible exact tm_asBool _ | with_reducible exact tm_asAgg _ | with_reducible exact tm_asAddr _ | with_reducible exact tm_sureAddr _ | with_reducible exact tm_loadCells _ _ | with_reducible exact tm_storeCells _ _ _ | with_reducible exact tm_loadVar _ _ | with_reducible exact tm_storeVar _ _ _ | with_reducible exact tm_part _ _ _ | with_reducible exact tm_askRoom _ | with_reducible exact tm_viewAt _ | with_reducible exact tm_numberAt _ | with_reducible exact tm_behindNumber _ | with_reducible exact tm_asNumber _ _ | with_reducible exact tm_noView _ | with_reducible exact tm_stringish _ | with_reducible exact tm_mayBeOne _ _ | with_reducible exact tm_sameAddr _ _ | with_reducible exact tm_samePointer _ _ | with_reducible exact tm_byteOf _ | with_reducible exact tm_partAt _ _ _ | with_reducible exact tm_fieldPlace _ _
    | with_reducible refine tm_bind ?_ fun _ => ?_
    | split
    | dsimp only
    | (rename_i b; cases b <;> simp only [Bool.false_eq_true, if_false, if_true, Bool.not_false, Bool.not_true])))
omit [Shift] in
theorem tm_storeAt (t : TypeId) (v u : Value) : Tm P (Instr.storeAt t v u) := by
  unfold Instr.storeAt
  (repeat' (first
    | with_reducible exact tm_pure _ | with_reducible exact tm_stuck _ | with_reducible exact tm_unsupported _ | with_reducible exact tm_goPanic _ | with_reducible exact tm_program | with_reducible exact tm_load _ _ | with_reducible exact tm_store _ _ _ | with_reducible exact tm_newObj _ | with_reducible exact tm_shape _ | with_reducible exact tm_frozen _ | with_reducible exact tm_getObj _ | with_reducible exact tm_choose _ | with_reducible exact tm_mark _ | with_reducible exact tm_typeInfo _ | with_reducible exact tm_underlying _ | with_reducible exact tm_sizeOf _ | with_reducible exact tm_zeroValue _ | with_reducible exact tm_isAgg _ | with_reducible exact tm_newRow _ _ | with_reducible exact tm_newVar _ _ | with_reducible exact tm_elemOf _ | with_reducible exact tm_panicString _ | with_reducible exact tm_runtimePanic _ | with_reducible refine tm_map _ ?_ | with_reducible exact tm_boundsPanic _ _ _ _ | with_reducible exact tm_asIntOf _ | with_reducible exact tm_asInt _ | with_reducible exact tm_asBool _ | with_reducible exact tm_asAgg _ | with_reducible exact tm_asAddr _ | with_reducible exact tm_sureAddr _ | with_reducible exact tm_loadCells _ _ | with_reducible exact tm_storeCells _ _ _ | with_reducible exact tm_loadVar _ _ | with_reducible exact tm_storeVar _ _ _ | with_reducible exact tm_part _ _ _ | with_reducible exact tm_askRoom _ | with_reducible exact tm_viewAt _ | with_reducible exact tm_numberAt _ | with_reducible exact tm_behindNumber _ | with_reducible exact tm_asNumber _ _ | with_reducible exact tm_noView _ | with_reducible exact tm_stringish _ | with_reducible exact tm_mayBeOne _ _ | with_reducible exact tm_sameAddr _ _ | with_reducible exact tm_samePointer _ _ | with_reducible exact tm_byteOf _ | with_reducible exact tm_partAt _ _ _ | with_reducible exact tm_fieldPlace _ _ | with_reducible exact tm_loadAt _ _
    | with_reducible refine tm_bind ?_ fun _ => ?_
    | split
    | dsimp only
    | (rename_i b; cases b <;> simp only [Bool.false_eq_true, if_false, if_true, Bool.not_false, Bool.not_true])))
omit [Shift] in
theorem tm_fieldAt (t : TypeId) (v : Value) (k : Nat) : Tm P (Instr.fieldAt t v k) := by
  unfold Instr.fieldAt
  (repeat' (first
    | with_reducible exact tm_pure _ | with_reducible exact tm_stuck _ | with_reducible exact tm_unsupported _ | with_reducible exact tm_goPanic _ | with_reducible exact tm_program | with_reducible exact tm_load _ _ | with_reducible exact tm_store _ _ _ | with_reducible exact tm_newObj _ | with_reducible exact tm_shape _ | with_reducible exact tm_frozen _ | with_reducible exact tm_getObj _ | with_reducible exact tm_choose _ | with_reducible exact tm_mark _ | with_reducible exact tm_typeInfo _ | with_reducible exact tm_underlying _ | with_reducible exact tm_sizeOf _ | with_reducible exact tm_zeroValue _ | with_reducible exact tm_isAgg _ | with_reducible exact tm_newRow _ _ | with_reducible exact tm_newVar _ _ | with_reducible exact tm_elemOf _ | with_reducible exact tm_panicString _ | with_reducible exact tm_runtimePanic _ | with_reducible refine tm_map _ ?_ | with_reducible exact tm_boundsPanic _ _ _ _ | with_reducible exact tm_asIntOf _ | with_reducible exact tm_asInt _ | with_reducible exact tm_asBool _ | with_reducible exact tm_asAgg _ | with_reducible exact tm_asAddr _ | with_reducible exact tm_sureAddr _ | with_reducible exact tm_loadCells _ _ | with_reducible exact tm_storeCells _ _ _ | with_reducible exact tm_loadVar _ _ | with_reducible exact tm_storeVar _ _ _ | with_reducible exact tm_part _ _ _ | with_reducible exact tm_askRoom _ | with_reducible exact tm_viewAt _ | with_reducible exact tm_numberAt _ | with_reducible exact tm_behindNumber _ | with_reducible exact tm_asNumber _ _ | with_reducible exact tm_noView _ | with_reducible exact tm_stringish _ | with_reducible exact tm_mayBeOne _ _ | with_reducible exact tm_sameAddr _ _ | with_reducible exact tm_samePointer _ _ | with_reducible exact tm_byteOf _ | with_reducible exact tm_partAt _ _ _ | with_reducible exact tm_fieldPlace _ _ | with_reducible exact tm_loadAt _ _ | with_reducible exact tm_storeAt _ _ _
    | with_reducible refine tm_bind ?_ fun _ => ?_
    | split
    | dsimp only
    | (rename_i b; cases b <;> simp only [Bool.false_eq_true, if_false, if_true, Bool.not_false, Bool.not_true])))
omit [Shift] in
theorem tm_indexAt (t : TypeId) (v u : Value) : Tm P (Instr.indexAt t v u) := by
  unfold Instr.indexAt
  (repeat' (first
    | with_reducible exact tm_pure _ | with_reducible exact tm_stuck _ | with_reducible exact tm_unsupported _ | with_reducible exact tm_goPanic _ | with_reducible exact tm_program | with_reducible exact tm_load _ _ | with_reducible exact tm_store _ _ _ | with_reducible exact tm_newObj _ | with_reducible exact tm_shape _ | with_reducible exact tm_frozen _ | with_reducible exact tm_getObj _ | with_reducible exact tm_choose _ | with_reducible exact tm_mark _ | with_reducible exact tm_typeInfo _ | with_reducible exact tm_underlying _ | with_reducible exact tm_sizeOf _ | with_reducible exact tm_zeroValue _ | with_reducible exact tm_isAgg _ | with_reducible exact tm_newRow _ _ | with_reducible exact tm_newVar _ _ | with_reducible exact tm_elemOf _ | with_reducible exact tm_panicString _ | with_reducible exact tm_runtimePanic _ | with_reducible refine tm_map _ ?_ | with_reducible exact tm_boundsPanic _ _ _ _ | with_reducible exact tm_asIntOf _ | with_reducible exact tm_asInt _ | with_reducible exact tm_asBool _ | with_reducible exact tm_asAgg _ | with_reducible exact tm_asAddr _ | with_reducible exact tm_sureAddr _ | with_reducible exact tm_loadCells _ _ | with_reducible exact tm_storeCells _ _ _ | with_reducible exact tm_loadVar _ _ | with_reducible exact tm_storeVar _ _ _ | with_reducible exact tm_part _ _ _ | with_reducible exact tm_askRoom _ | with_reducible exact tm_viewAt _ | with_reducible exact tm_numberAt _ | with_reducible exact tm_behindNumber _ | with_reducible exact tm_asNumber _ _ | with_reducible exact tm_noView _ | with_reducible exact tm_stringish _ | with_reducible exact tm_mayBeOne _ _ | with_reducible exact tm_sameAddr _ _ | with_reducible exact tm_samePointer _ _ | with_reducible exact tm_byteOf _ | with_reducible exact tm_partAt _ _ _ | with_reducible exact tm_fieldPlace _ _ | with_reducible exact tm_loadAt _ _ | with_reducible exact tm_storeAt _ _ _ | with_reducible exact tm_fieldAt _ _ _
    | with_reducible refine tm_bind ?_ fun _ => ?_
    | split
    | dsimp only
    | (rename_i b; cases b <;> simp only [Bool.false_eq_true, if_false, if_true, Bool.not_false, Bool.not_true])))
omit [Shift] in
theorem tm_sliceBound (v : Value) (y : Nat) (c : BoundsCode) : Tm P (Instr.sliceBound v y c) := by
  unfold Instr.sliceBound
  (repeat' (first
    | with_reducible exact tm_pure _ | with_reducible exact tm_stuck _ | with_reducible exact tm_unsupported _ | with_reducible exact tm_goPanic _ | with_reducible exact tm_program | with_reducible exact tm_load _ _ | with_reducible exact tm_store _ _ _ | with_reducible exact tm_newObj _ | with_reducible exact tm_shape _ | with_reducible exact tm_frozen _ | with_reducible exact tm_getObj _ | with_reducible exact tm_choose _ | with_reducible exact tm_mark _ | with_reducible exact tm_typeInfo _ | with_reducible exact tm_underlying _ | with_reducible exact tm_sizeOf _ | with_reducible exact tm_zeroValue _ | with_reducible exact tm_isAgg _ | with_reducible exact tm_newRow _ _ | with_reducible exact tm_newVar _ _ | with_reducible exact tm_elemOf _ | with_reducible exact tm_panicString _ | with_reducible exact tm_runtimePanic _ | with_reducible refine tm_map _ ?_ | with_reducible exact tm_boundsPanic _ _ _ _ | with_reducible exact tm_asIntOf _ | with_reducible exact tm_asInt _ | with_reducible exact tm_asBool _ | with_reducible exact tm_asAgg _ | with_reducible exact tm_asAddr _ | with_reducible exact tm_sureAddr _ | with_reducible exact tm_loadCells _ _ | with_reducible exact tm_storeCells _ _ _ | with_reducible exact tm_loadVar _ _ | with_reducible exact tm_storeVar _ _ _ | with_reducible exact tm_part _ _ _ | with_reducible exact tm_askRoom _ | with_reducible exact tm_viewAt _ | with_reducible exact tm_numberAt _ | with_reducible exact tm_behindNumber _ | with_reducible exact tm_asNumber _ _ | with_reducible exact tm_noView _ | with_reducible exact tm_stringish _ | with_reducible exact tm_mayBeOne _ _ | with_reducible exact tm_sameAddr _ _ | with_reducible exact tm_samePointer _ _ | with_reducible exact tm_byteOf _ | with_reducible exact tm_partAt _ _ _ | with_reducible exact tm_fieldPlace _ _ | with_reducible exact tm_loadAt _ _ | with_reducible exact tm_storeAt _ _ _ | with_reducible exact tm_fieldAt _ _ _ | with_reducible exact tm_indexAt _ _ _
    | with_reducible refine tm_bind ?_ fun _ => ?_
    | split
    | dsimp only
    | (rename_i b; cases b <;> simp only [Bool.false_eq_true, if_false, if_true, Bool.not_false, Bool.not_true])))
omit [Shift] in
theorem tm_sliceBounds (b : Bool) (n m : Nat) (x y z : Option Value) : Tm P (Instr.sliceBounds b n m x y z) := by
  unfold Instr.sliceBounds
  (repeat' (first
    | with_reducible exact tm_pure _ | with_reducible exact tm_stuck _ | with_reducible exact tm_unsupported _ | with_reducible exact tm_goPanic _ | with_reducible exact tm_program | with_reducible exact tm_load _ _ | with_reducible exact tm_store _ _ _ | with_reducible exact tm_newObj _ | with_reducible exact tm_shape _ | with_reducible exact tm_frozen _ | with_reducible exact tm_getObj _ | with_reducible exact tm_choose _ | with_reducible exact tm_mark _ | with_reducible exact tm_typeInfo _ | with_reducible exact tm_underlying _ | with_reducible exact tm_sizeOf _ | with_reducible exact tm_zeroValue _ | with_reducible exact tm_isAgg _ | with_reducible exact tm_newRow _ _ | with_reducible exact tm_newVar _ _ | with_reducible exact tm_elemOf _ | with_reducible exact tm_panicString _ | with_reducible exact tm_runtimePanic _ | with_reducible refine tm_map _ ?_ | with_reducible exact tm_boundsPanic _ _ _ _ | with_reducible exact tm_asIntOf _ | with_reducible exact tm_asInt _ | with_reducible exact tm_asBool _ | with_reducible exact tm_asAgg _ | with_reducible exact tm_asAddr _ | with_reducible exact tm_sureAddr _ | with_reducible exact tm_loadCells _ _ | with_reducible exact tm_storeCells _ _ _ | with_reducible exact tm_loadVar _ _ | with_reducible exact tm_storeVar _ _ _ | with_reducible exact tm_part _ _ _ | with_reducible exact tm_askRoom _ | with_reducible exact tm_viewAt _ | with_reducible exact tm_numberAt _ | with_reducible exact tm_behindNumber _ | with_reducible exact tm_asNumber _ _ | with_reducible exact tm_noView _ | with_reducible exact tm_stringish _ | with_reducible exact tm_mayBeOne _ _ | with_reducible exact tm_sameAddr _ _ | with_reducible exact tm_samePointer _ _ | with_reducible exact tm_byteOf _ | with_reducible exact tm_partAt _ _ _ | with_reducible exact tm_fieldPlace _ _ | with_reducible exact tm_loadAt _ _ | with_reducible exact tm_storeAt _ _ _ | with_reducible exact tm_fieldAt _ _ _ | with_reducible exact tm_indexAt _ _ _ | with_reducible exact tm_sliceBound _ _ _
    | with_reducible refine tm_bind ?_ fun _ => ?_
    | split
    | dsimp only
    | (rename_i b; cases b <;> simp only [Bool.false_eq_true, if_false, if_true, Bool.not_false, Bool.not_true])))
omit [Shift] in
theorem tm_slice (t : TypeId) (v : Value) (x y z : Option Value) : Tm P (Instr.slice t v x y z) := by
  unfold Instr.slice
  (repeat' (first
    | with_reducible exact tm_pure _ | with_reducible exact tm_stuck _ | with_reducible exact tm_unsupported _ | with_reducible exact tm_goPanic _ | with_reducible exact tm_program | with_reducible exact tm_load _ _ | with_reducible exact tm_store _ _ _ | with_reducible exact tm_newObj _ | with_reducible exact tm_shape _ | with_reducible exact tm_frozen _ | with_reducible exact tm_getObj _ | with_reducible exact tm_choose _ | with_reducible exact tm_mark _ | with_reducible exact tm_typeInfo _ | with_reducible exact tm_underlying _ | with_reducible exact tm_sizeOf _ | with_reducible exact tm_zeroValue _ | with_reducible exact tm_isAgg _ | with_reducible exact tm_newRow _ _ | with_reducible exact tm_newVar _ _ | with_reducible exact tm_elemOf _ | with_reducible exact tm_panicString _ | with_reducible exact tm_runtimePanic _ | with_reducible refine tm_map _ ?_ | with_reducible exact tm_boundsPanic _ _ _ _ | with_reducible exact tm_asIntOf _ | with_reducible exact tm_asInt _ | with_reducible exact tm_asBool _ | with_reducible exact tm_asAgg _ | with_reducible exact tm_asAddr _ | with_reducible exact tm_sureAddr _ | with_reducible exact tm_loadCells _ _ | with_reducible exact tm_storeCells _ _ _ | with_reducible exact tm_loadVar _ _ | with_reducible exact tm_storeVar _ _ _ | with_reducible exact tm_part _ _ _ | with_reducible exact tm_askRoom _ | with_reducible exact tm_viewAt _ | with_reducible exact tm_numberAt _ | with_reducible exact tm_behindNumber _ | with_reducible exact tm_asNumber _ _ | with_reducible exact tm_noView _ | with_reducible exact tm_stringish _ | with_reducible exact tm_mayBeOne _ _ | with_reducible exact tm_sameAddr _ _ | with_reducible exact tm_samePointer _ _ | with_reducible exact tm_byteOf _ | with_reducible exact tm_partAt _ _ _ | with_reducible exact tm_fieldPlace _ _ | with_reducible exact tm_loadAt _ _ | with_reducible exact tm_storeAt _ _ _ | with_reducible exact tm_fieldAt _ _ _ | with_reducible exact tm_indexAt _ _ _ | with_reducible exact tm_sliceBound _ _ _ | with_reducible exact tm_sliceBounds _ _ _ _ _ _
    | with_reducible refine tm_bind ?_ fun _ => ?_
    | split
    | dsimp only
    | (rename_i b; cases b <;> simp only [Bool.false_eq_true, if_false, if_true, Bool.not_false, Bool.not_true])))
omit [Shift] in
theorem tm_sliceAt (t : TypeId) (v : Value) (x y z : Option Value) : Tm P (Instr.sliceAt t v x y z) := by
  unfold Instr.sliceAt
  (repeat' (first
    | with_reducible exact tm_pure _ | with_reducible exact tm_stuck _ | with_reducible exact tm_unsupported _ | with_reducible exact tm_goPanic _ | with_reducible exact tm_program | with_reducible exact tm_load _ _ | with_reducible exact tm_store _ _ _ | with_reducible exact tm_newObj _ | with_reducible exact tm_shape _ | with_reducible exact tm_frozen _ | with_reducible exact tm_getObj _ | with_reducible exact tm_choose _ | with_reducible exact tm_mark _ | with_reducible exact tm_typeInfo _ | with_reducible exact tm_underlying _ | with_reducible exact tm_sizeOf _ | with_reducible exact tm_zeroValue _ | with_reducible exact tm_isAgg _ | with_reducible exact tm_newRow _ _ | with_reducible exact tm_newVar _ _ | with_reducible exact tm_elemOf _ | with_reducible exact tm_panicString _ | with_reducible exact tm_runtimePanic _ | with_reducible refine tm_map _ ?_ | with_reducible exact tm_boundsPanic _ _ _ _ | with_reducible exact tm_asIntOf _ | with_reducible exact tm_asInt _ | with_reducible exact tm_asBool _ | with_reducible exact tm_asAgg _ | with_reducible exact tm_asAddr _ | with_reducible exact tm_sureAddr _ | with_reducible exact tm_loadCells _ _ | with_reducible exact tm_storeCells _ _ _ | with_reducible exact tm_loadVar _ _ | with_reducible exact tm_storeVar _ _ _ | with_reducible exact tm_part _ _ _ | with_reducible exact tm_askRoom _ | with_reducible exact tm_viewAt _ | with_reducible exact tm_numberAt _ | with_reducible exact tm_behindNumber _ | with_reducible exact tm_asNumber _ _ | with_reducible exact tm_noView _ | with_reducible exact tm_stringish _ | with_reducible exact tm_mayBeOne _ _ | with_reducible exact tm_sameAddr _ _ | with_reducible exact tm_samePointer _ _ | with_reducible exact tm_byteOf _ | with_reducible exact tm_partAt _ _ _ | with_reducible exact tm_fieldPlace _ _ | with_reducible exact tm_loadAt _ _ | with_reducible exact tm_storeAt _ _ _ | with_reducible exact tm_fieldAt _ _ _ | with_reducible exact tm_indexAt _ _ _ | with_reducible exact tm_sliceBound _ _ _ | with_reducible exact tm_sliceBounds _ _ _ _ _ _ | with_reducible exact tm_slice _ _ _ _ _
    | with_reducible refine tm_bind ?_ fun _ => ?_
    | split
    | dsimp only
    | (rename_i b; cases b <;> simp only [Bool.false_eq_true, if_false, if_true, Bool.not_false, Bool.not_true])))
omit [Shift] in
theorem tm_makeSlice (t : TypeId) (v u : Value) : Tm P (Instr.makeSlice t v u) := by
  unfold Instr.makeSlice
  (repeat' (first
    | with_reducible exact tm_pure _ | with_reducible exact tm_stuck _ | with_reducible exact tm_unsupported _ | with_reducible exact tm_goPanic _ | with_reducible exact tm_program | with_reducible exact tm_load _ _ | with_reducible exact tm_store _ _ _ | with_reducible exact tm_newObj _ | with_reducible exact tm_shape _ | with_reducible exact tm_frozen _ | with_reducible exact tm_getObj _ | with_reducible exact tm_choose _ | with_reducible exact tm_mark _ | with_reducible exact tm_typeInfo _ | with_reducible exact tm_underlying _ | with_reducible exact tm_sizeOf _ | with_reducible exact tm_zeroValue _ | with_reducible exact tm_isAgg _ | with_reducible exact tm_newRow _ _ | with_reducible exact tm_newVar _ _ | with_reducible exact tm_elemOf _ | with_reducible exact tm_panicString _ | with_reducible exact tm_runtimePanic _ | with_reducible refine tm_map _ ?_ | with_reducible exact tm_boundsPanic _ _ _ _ | with_reducible exact tm_asIntOf _ | with_reducible exact tm_asInt _ | with_reducible exact tm_asBool _ | with_reducible exact tm_asAgg _ | with_reducible exact tm_asAddr _ | with_reducible exact tm_sureAddr _ | with_reducible exact tm_loadCells _ _ | with_reducible exact tm_storeCells _ _ _ | with_reducible exact tm_loadVar _ _ | with_reducible exact tm_storeVar _ _ _ | with_reducible exact tm_part _ _ _ | with_reducible exact tm_askRoom _ | with_reducible exact tm_viewAt _ | with_reducible exact tm_numberAt _ | with_reducible exact tm_behindNumber _ | with_reducible exact tm_asNumber _ _ | with_reducible exact tm_noView _ | with_reducible exact tm_stringish _ | with_reducible exact tm_mayBeOne _ _ | with_reducible exact tm_sameAddr _ _ | with_reducible exact tm_samePointer _ _ | with_reducible exact tm_byteOf _ | with_reducible exact tm_partAt _ _ _ | with_reducible exact tm_fieldPlace _ _ | with_reducible exact tm_loadAt _ _ | with_reducible exact tm_storeAt _ _ _ | with_reducible exact tm_fieldAt _ _ _ | with_reducible exact tm_indexAt _ _ _ | with_reducible exact tm_sliceBound _ _ _ | with_reducible exact tm_sliceBounds _ _ _ _ _ _ | with_reducible exact tm_slice _ _ _ _ _ | with_reducible exact tm_sliceAt _ _ _ _ _
    | with_reducible refine tm_bind ?_ fun _ => ?_
    | split
    | dsimp only
    | (rename_i b; cases b <;> simp only [Bool.false_eq_true, if_false, if_true, Bool.not_false, Bool.not_true])))
omit [Shift] in
theorem tm_alloc (t : TypeId) (b : Bool) (v : Value) : Tm P (Instr.alloc t b v) := by
  unfold Instr.alloc
  (repeat' (first
    | with_reducible exact tm_pure _ | with_reducible exact tm_stuck _ | with_reducible exact tm_unsupported _ | with_reducible exact tm_goPanic _ | with_reducible exact tm_program | with_reducible exact tm_load _ _ | with_reducible exact tm_store _ _ _ | with_reducible exact tm_newObj _ | with_reducible exact tm_shape _ | with_reducible exact tm_frozen _ | with_reducible exact tm_getObj _ | with_reducible exact tm_choose _ | with_reducible exact tm_mark _ | with_reducible exact tm_typeInfo _ | with_reducible exact tm_underlying _ | with_reducible exact tm_sizeOf _ | with_reducible exact tm_zeroValue _ | with_reducible exact tm_isAgg _ | with_reducible exact tm_newRow _ _ | with_reducible exact tm_newVar _ _ | with_reducible exact tm_elemOf _ | with_reducible exact tm_panicString _ | with_reducible exact tm_runtimePanic _ | with_reducible refine tm_map _ ?_ | with_reducible exact tm_boundsPanic _ _ _ _ | with_reducible exact tm_asIntOf _ | with_reducible exact tm_asInt _ | with_reducible exact tm_asBool _ | with_reducible exact tm_asAgg _ | with_reducible exact tm_asAddr _ | with_reducible exact tm_sureAddr _ | with_reducible exact tm_loadCells _ _ | with_reducible exact tm_storeCells _ _ _ | with_reducible exact tm_loadVar _ _ | with_reducible exact tm_storeVar _ _ _ | with_reducible exact tm_part _ _ _ | with_reducible exact tm_askRoom _ | with_reducible exact tm_viewAt _ | with_reducible exact tm_numberAt _ | with_reducible exact tm_behindNumber _ | with_reducible exact tm_asNumber _ _ | with_reducible exact tm_noView _ | with_reducible exact tm_stringish _ | with_reducible exact tm_mayBeOne _ _ | with_reducible exact tm_sameAddr _ _ | with_reducible exact tm_samePointer _ _ | with_reducible exact tm_byteOf _ | with_reducible exact tm_partAt _ _ _ | with_reducible exact tm_fieldPlace _ _ | with_reducible exact tm_loadAt _ _ | with_reducible exact tm_storeAt _ _ _ | with_reducible exact tm_fieldAt _ _ _ | with_reducible exact tm_indexAt _ _ _ | with_reducible exact tm_sliceBound _ _ _ | with_reducible exact tm_sliceBounds _ _ _ _ _ _ | with_reducible exact tm_slice _ _ _ _ _ | with_reducible exact tm_sliceAt _ _ _ _ _ | with_reducible exact tm_makeSlice _ _ _
    | with_reducible refine tm_bind ?_ fun _ => ?_
    | split
    | dsimp only
    | (rename_i b; cases b <;> simp only [Bool.false_eq_true, if_false, if_true, Bool.not_false, Bool.not_true])))
omit [Shift] in
theorem tm_box (t : TypeId) (v : Value) : Tm P (Instr.box t v) := by
  unfold Instr.box
  (repeat' (first
    | with_reducible exact tm_pure _ | with_reducible exact tm_stuck _ | with_reducible exact tm_unsupported _ | with_reducible exact tm_goPanic _ | with_reducible exact tm_program | with_reducible exact tm_load _ _ | with_reducible exact tm_store _ _ _ | with_reducible exact tm_newObj _ | with_reducible exact tm_shape _ | with_reducible exact tm_frozen _ | with_reducible exact tm_getObj _ | with_reducible exact tm_choose _ | with_reducible exact tm_mark _ | with_reducible exact tm_typeInfo _ | with_reducible exact tm_underlying _ | with_reducible exact tm_sizeOf _ | with_reducible exact tm_zeroValue _ | with_reducible exact tm_isAgg _ | with_reducible exact tm_newRow _ _ | with_reducible exact tm_newVar _ _ | with_reducible exact tm_elemOf _ | with_reducible exact tm_panicString _ | with_reducible exact tm_runtimePanic _ | with_reducible refine tm_map _ ?_ | with_reducible exact tm_boundsPanic _ _ _ _ | with_reducible exact tm_asIntOf _ | with_reducible exact tm_asInt _ | with_reducible exact tm_asBool _ | with_reducible exact tm_asAgg _ | with_reducible exact tm_asAddr _ | with_reducible exact tm_sureAddr _ | with_reducible exact tm_loadCells _ _ | with_reducible exact tm_storeCells _ _ _ | with_reducible exact tm_loadVar _ _ | with_reducible exact tm_storeVar _ _ _ | with_reducible exact tm_part _ _ _ | with_reducible exact tm_askRoom _ | with_reducible exact tm_viewAt _ | with_reducible exact tm_numberAt _ | with_reducible exact tm_behindNumber _ | with_reducible exact tm_asNumber _ _ | with_reducible exact tm_noView _ | with_reducible exact tm_stringish _ | with_reducible exact tm_mayBeOne _ _ | with_reducible exact tm_sameAddr _ _ | with_reducible exact tm_samePointer _ _ | with_reducible exact tm_byteOf _ | with_reducible exact tm_partAt _ _ _ | with_reducible exact tm_fieldPlace _ _ | with_reducible exact tm_loadAt _ _ | with_reducible exact tm_storeAt _ _ _ | with_reducible exact tm_fieldAt _ _ _ | with_reducible exact tm_indexAt _ _ _ | with_reducible exact tm_sliceBound _ _ _ | with_reducible exact tm_sliceBounds _ _ _ _ _ _ | with_reducible exact tm_slice _ _ _ _ _ | with_reducible exact tm_sliceAt _ _ _ _ _ | with_reducible exact tm_makeSlice _ _ _ | with_reducible exact tm_alloc _ _ _
    | with_reducible refine tm_bind ?_ fun _ => ?_
    | split
    | dsimp only
    | (rename_i b; cases b <;> simp only [Bool.false_eq_true, if_false, if_true, Bool.not_false, Bool.not_true])))
omit [Shift] in
theorem tm_mapM {α β : Type} {f : α → Sem β} (h : ∀ x, Tm P (f x)) : ∀ l : List α, Tm P (l.mapM f)
  | [] => by rw [List.mapM_nil]; exact tm_pure _
  | x :: l => by
    rw [List.mapM_cons]
    exact tm_bind (h x) fun _ => tm_bind (tm_mapM h l) fun _ => tm_pure _
omit [Shift] in
theorem tm_mapMA {α β : Type} {f : α → Sem β} (h : ∀ x, Tm P (f x)) (l : Array α) : Tm P (l.mapM f) := by
  rw [Array.mapM_eq_mapM_toList]
  exact tm_map _ (tm_mapM h _)
omit [Shift] in
theorem tm_build (t : TypeId) (l : Array (Nat × Value)) : Tm P (Instr.build t l) := by
  unfold Instr.build
  (repeat' (first
    | with_reducible exact tm_pure _ | with_reducible exact tm_stuck _ | with_reducible exact tm_unsupported _ | with_reducible exact tm_goPanic _ | with_reducible exact tm_program | with_reducible exact tm_load _ _ | with_reducible exact tm_store _ _ _ | with_reducible exact tm_newObj _ | with_reducible exact tm_shape _ | with_reducible exact tm_frozen _ | with_reducible exact tm_getObj _ | with_reducible exact tm_choose _ | with_reducible exact tm_mark _ | with_reducible exact tm_typeInfo _ | with_reducible exact tm_underlying _ | with_reducible exact tm_sizeOf _ | with_reducible exact tm_zeroValue _ | with_reducible exact tm_isAgg _ | with_reducible exact tm_newRow _ _ | with_reducible exact tm_newVar _ _ | with_reducible exact tm_elemOf _ | with_reducible exact tm_panicString _ | with_reducible exact tm_runtimePanic _ | with_reducible refine tm_map _ ?_ | with_reducible exact tm_boundsPanic _ _ _ _ | with_reducible exact tm_asIntOf _ | with_reducible exact tm_asInt _ | with_reducible exact tm_asBool _ | with_reducible exact tm_asAgg _ | with_reducible exact tm_asAddr _ | with_reducible exact tm_sureAddr _ | with_reducible exact tm_loadCells _ _ | with_reducible exact tm_storeCells _ _ _ | with_reducible exact tm_loadVar _ _ | with_reducible exact tm_storeVar _ _ _ | with_reducible exact tm_part _ _ _ | with_reducible exact tm_askRoom _ | with_reducible exact tm_viewAt _ | with_reducible exact tm_numberAt _ | with_reducible exact tm_behindNumber _ | with_reducible exact tm_asNumber _ _ | with_reducible exact tm_noView _ | with_reducible exact tm_stringish _ | with_reducible exact tm_mayBeOne _ _ | with_reducible exact tm_sameAddr _ _ | with_reducible exact tm_samePointer _ _ | with_reducible exact tm_byteOf _ | with_reducible exact tm_partAt _ _ _ | with_reducible exact tm_fieldPlace _ _ | with_reducible exact tm_loadAt _ _ | with_reducible exact tm_storeAt _ _ _ | with_reducible exact tm_fieldAt _ _ _ | with_reducible exact tm_indexAt _ _ _ | with_reducible exact tm_sliceBound _ _ _ | with_reducible exact tm_sliceBounds _ _ _ _ _ _ | with_reducible exact tm_slice _ _ _ _ _ | with_reducible exact tm_sliceAt _ _ _ _ _ | with_reducible exact tm_makeSlice _ _ _ | with_reducible exact tm_alloc _ _ _ | with_reducible exact tm_box _ _ | with_reducible refine tm_mapMA (fun _ => ?_) _
    | with_reducible refine tm_bind ?_ fun _ => ?_
    | split
    | dsimp only
    | (rename_i b; cases b <;> simp only [Bool.false_eq_true, if_false, if_true, Bool.not_false, Bool.not_true])))
omit [Shift] in
theorem tm_buildSlice (t : TypeId) (n : Nat) (l : Array (Nat × Value)) : Tm P (Instr.buildSlice t n l) := by
  unfold Instr.buildSlice
  (repeat' (first
    | with_reducible exact tm_pure _ | with_reducible exact tm_stuck _ | with_reducible exact tm_unsupported _ | with_reducible exact tm_goPanic _ | with_reducible exact tm_program | with_reducible exact tm_load _ _ | with_reducible exact tm_store _ _ _ | with_reducible exact tm_newObj _ | with_reducible exact tm_shape _ | with_reducible exact tm_frozen _ | with_reducible exact tm_getObj _ | with_reducible exact tm_choose _ | with_reducible exact tm_mark _ | with_reducible exact tm_typeInfo _ | with_reducible exact tm_underlying _ | with_reducible exact tm_sizeOf _ | with_reducible exact tm_zeroValue _ | with_reducible exact tm_isAgg _ | with_reducible exact tm_newRow _ _ | with_reducible exact tm_newVar _ _ | with_reducible exact tm_elemOf _ | with_reducible exact tm_panicString _ | with_reducible exact tm_runtimePanic _ | with_reducible refine tm_map _ ?_ | with_reducible exact tm_boundsPanic _ _ _ _ | with_reducible exact tm_asIntOf _ | with_reducible exact tm_asInt _ | with_reducible exact tm_asBool _ | with_reducible exact tm_asAgg _ | with_reducible exact tm_asAddr _ | with_reducible exact tm_sureAddr _ | with_reducible exact tm_loadCells _ _ | with_reducible exact tm_storeCells _ _ _ | with_reducible exact tm_loadVar _ _ | with_reducible exact tm_storeVar _ _ _ | with_reducible exact tm_part _ _ _ | with_reducible exact tm_askRoom _ | with_reducible exact tm_viewAt _ | with_reducible exact tm_numberAt _ | with_reducible exact tm_behindNumber _ | with_reducible exact tm_asNumber _ _ | with_reducible exact tm_noView _ | with_reducible exact tm_stringish _ | with_reducible exact tm_mayBeOne _ _ | with_reducible exact tm_sameAddr _ _ | with_reducible exact tm_samePointer _ _ | with_reducible exact tm_byteOf _ | with_reducible exact tm_partAt _ _ _ | with_reducible exact tm_fieldPlace _ _ | with_reducible exact tm_loadAt _ _ | with_reducible exact tm_storeAt _ _ _ | with_reducible exact tm_fieldAt _ _ _ | with_reducible exact tm_indexAt _ _ _ | with_reducible exact tm_sliceBound _ _ _ | with_reducible exact tm_sliceBounds _ _ _ _ _ _ | with_reducible exact tm_slice _ _ _ _ _ | with_reducible exact tm_sliceAt _ _ _ _ _ | with_reducible exact tm_makeSlice _ _ _ | with_reducible exact tm_alloc _ _ _ | with_reducible exact tm_box _ _ | with_reducible refine tm_mapMA (fun _ => ?_) _ | with_reducible exact tm_build _ _
    | with_reducible refine tm_bind ?_ fun _ => ?_
    | split
    | dsimp only
    | (rename_i b; cases b <;> simp only [Bool.false_eq_true, if_false, if_true, Bool.not_false, Bool.not_true])))
omit [Shift] in
theorem tm_makeInterface (t : TypeId) (v : Value) : Tm P (Instr.makeInterface t v) := by
  unfold Instr.makeInterface
  (repeat' (first
    | with_reducible exact tm_pure _ | with_reducible exact tm_stuck _ | with_reducible exact tm_unsupported _ | with_reducible exact tm_goPanic _ | with_reducible exact tm_program | with_reducible exact tm_load _ _ | with_reducible exact tm_store _ _ _ | with_reducible exact tm_newObj _ | with_reducible exact tm_shape _ | with_reducible exact tm_frozen _ | with_reducible exact tm_getObj _ | with_reducible exact tm_choose _ | with_reducible exact tm_mark _ | with_reducible exact tm_typeInfo _ | with_reducible exact tm_underlying _ | with_reducible exact tm_sizeOf _ | with_reducible exact tm_zeroValue _ | with_reducible exact tm_isAgg _ | with_reducible exact tm_newRow _ _ | with_reducible exact tm_newVar _ _ | with_reducible exact tm_elemOf _ | with_reducible exact tm_panicString _ | with_reducible exact tm_runtimePanic _ | with_reducible refine tm_map _ ?_ | with_reducible exact tm_boundsPanic _ _ _ _ | with_reducible exact tm_asIntOf _ | with_reducible exact tm_asInt _ | with_reducible exact tm_asBool _ | with_reducible exact tm_asAgg _ | with_reducible exact tm_asAddr _ | with_reducible exact tm_sureAddr _ | with_reducible exact tm_loadCells _ _ | with_reducible exact tm_storeCells _ _ _ | with_reducible exact tm_loadVar _ _ | with_reducible exact tm_storeVar _ _ _ | with_reducible exact tm_part _ _ _ | with_reducible exact tm_askRoom _ | with_reducible exact tm_viewAt _ | with_reducible exact tm_numberAt _ | with_reducible exact tm_behindNumber _ | with_reducible exact tm_asNumber _ _ | with_reducible exact tm_noView _ | with_reducible exact tm_stringish _ | with_reducible exact tm_mayBeOne _ _ | with_reducible exact tm_sameAddr _ _ | with_reducible exact tm_samePointer _ _ | with_reducible exact tm_byteOf _ | with_reducible exact tm_partAt _ _ _ | with_reducible exact tm_fieldPlace _ _ | with_reducible exact tm_loadAt _ _ | with_reducible exact tm_storeAt _ _ _ | with_reducible exact tm_fieldAt _ _ _ | with_reducible exact tm_indexAt _ _ _ | with_reducible exact tm_sliceBound _ _ _ | with_reducible exact tm_sliceBounds _ _ _ _ _ _ | with_reducible exact tm_slice _ _ _ _ _ | with_reducible exact tm_sliceAt _ _ _ _ _ | with_reducible exact tm_makeSlice _ _ _ | with_reducible exact tm_alloc _ _ _ | with_reducible exact tm_box _ _ | with_reducible refine tm_mapMA (fun _ => ?_) _ | with_reducible exact tm_build _ _ | with_reducible exact tm_buildSlice _ _ _
    | with_reducible refine tm_bind ?_ fun _ => ?_
    | split
    | dsimp only
    | (rename_i b; cases b <;> simp only [Bool.false_eq_true, if_false, if_true, Bool.not_false, Bool.not_true])))
omit [Shift] in
theorem tm_makeFunc (f : Fn) (a b : Array Value) : Tm P (Instr.makeFunc f a b) := by
  unfold Instr.makeFunc
  (repeat' (first
    | with_reducible exact tm_pure _ | with_reducible exact tm_stuck _ | with_reducible exact tm_unsupported _ | with_reducible exact tm_goPanic _ | with_reducible exact tm_program | with_reducible exact tm_load _ _ | with_reducible exact tm_store _ _ _ | with_reducible exact tm_newObj _ | with_reducible exact tm_shape _ | with_reducible exact tm_frozen _ | with_reducible exact tm_getObj _ | with_reducible exact tm_choose _ | with_reducible exact tm_mark _ | with_reducible exact tm_typeInfo _ | with_reducible exact tm_underlying _ | with_reducible exact tm_sizeOf _ | with_reducible exact tm_zeroValue _ | with_reducible exact tm_isAgg _ | with_reducible exact tm_newRow _ _ | with_reducible exact tm_newVar _ _ | with_reducible exact tm_elemOf _ | with_reducible exact tm_panicString _ | with_reducible exact tm_runtimePanic _ | with_reducible refine tm_map _ ?_ | with_reducible exact tm_boundsPanic _ _ _ _ | with_reducible exact tm_asIntOf _ | with_reducible exact tm_asInt _ | with_reducible exact tm_asBool _ | with_reducible exact tm_asAgg _ | with_reducible exact tm_asAddr _ | with_reducible exact tm_sureAddr _ | with_reducible exact tm_loadCells _ _ | with_reducible exact tm_storeCells _ _ _ | with_reducible exact tm_loadVar _ _ | with_reducible exact tm_storeVar _ _ _ | with_reducible exact tm_part _ _ _ | with_reducible exact tm_askRoom _ | with_reducible exact tm_viewAt _ | with_reducible exact tm_numberAt _ | with_reducible exact tm_behindNumber _ | with_reducible exact tm_asNumber _ _ | with_reducible exact tm_noView _ | with_reducible exact tm_stringish _ | with_reducible exact tm_mayBeOne _ _ | with_reducible exact tm_sameAddr _ _ | with_reducible exact tm_samePointer _ _ | with_reducible exact tm_byteOf _ | with_reducible exact tm_partAt _ _ _ | with_reducible exact tm_fieldPlace _ _ | with_reducible exact tm_loadAt _ _ | with_reducible exact tm_storeAt _ _ _ | with_reducible exact tm_fieldAt _ _ _ | with_reducible exact tm_indexAt _ _ _ | with_reducible exact tm_sliceBound _ _ _ | with_reducible exact tm_sliceBounds _ _ _ _ _ _ | with_reducible exact tm_slice _ _ _ _ _ | with_reducible exact tm_sliceAt _ _ _ _ _ | with_reducible exact tm_makeSlice _ _ _ | with_reducible exact tm_alloc _ _ _ | with_reducible exact tm_box _ _ | with_reducible refine tm_mapMA (fun _ => ?_) _ | with_reducible exact tm_build _ _ | with_reducible exact tm_buildSlice _ _ _ | with_reducible exact tm_makeInterface _ _
    | with_reducible refine tm_bind ?_ fun _ => ?_
    | split
    | dsimp only
    | (rename_i b; cases b <;> simp only [Bool.false_eq_true, if_false, if_true, Bool.not_false, Bool.not_true])))
omit [Shift] in
theorem tm_extract (v : Value) (k : Nat) : Tm P (Instr.extract v k) := by
  unfold Instr.extract
  (repeat' (first
    | with_reducible exact tm_pure _ | with_reducible exact tm_stuck _ | with_reducible exact tm_unsupported _ | with_reducible exact tm_goPanic _ | with_reducible exact tm_program | with_reducible exact tm_load _ _ | with_reducible exact tm_store _ _ _ | with_reducible exact tm_newObj _ | with_reducible exact tm_shape _ | with_reducible exact tm_frozen _ | with_reducible exact tm_getObj _ | with_reducible exact tm_choose _ | with_reducible exact tm_mark _ | with_reducible exact tm_typeInfo _ | with_reducible exact tm_underlying _ | with_reducible exact tm_sizeOf _ | with_reducible exact tm_zeroValue _ | with_reducible exact tm_isAgg _ | with_reducible exact tm_newRow _ _ | with_reducible exact tm_newVar _ _ | with_reducible exact tm_elemOf _ | with_reducible exact tm_panicString _ | with_reducible exact tm_runtimePanic _ | with_reducible refine tm_map _ ?_ | with_reducible exact tm_boundsPanic _ _ _ _ | with_reducible exact tm_asIntOf _ | with_reducible exact tm_asInt _ | with_reducible exact tm_asBool _ | with_reducible exact tm_asAgg _ | with_reducible exact tm_asAddr _ | with_reducible exact tm_sureAddr _ | with_reducible exact tm_loadCells _ _ | with_reducible exact tm_storeCells _ _ _ | with_reducible exact tm_loadVar _ _ | with_reducible exact tm_storeVar _ _ _ | with_reducible exact tm_part _ _ _ | with_reducible exact tm_askRoom _ | with_reducible exact tm_viewAt _ | with_reducible exact tm_numberAt _ | with_reducible exact tm_behindNumber _ | with_reducible exact tm_asNumber _ _ | with_reducible exact tm_noView _ | with_reducible exact tm_stringish _ | with_reducible exact tm_mayBeOne _ _ | with_reducible exact tm_sameAddr _ _ | with_reducible exact tm_samePointer _ _ | with_reducible exact tm_byteOf _ | with_reducible exact tm_partAt _ _ _ | with_reducible exact tm_fieldPlace _ _ | with_reducible exact tm_loadAt _ _ | with_reducible exact tm_storeAt _ _ _ | with_reducible exact tm_fieldAt _ _ _ | with_reducible exact tm_indexAt _ _ _ | with_reducible exact tm_sliceBound _ _ _ | with_reducible exact tm_sliceBounds _ _ _ _ _ _ | with_reducible exact tm_slice _ _ _ _ _ | with_reducible exact tm_sliceAt _ _ _ _ _ | with_reducible exact tm_makeSlice _ _ _ | with_reducible exact tm_alloc _ _ _ | with_reducible exact tm_box _ _ | with_reducible refine tm_mapMA (fun _ => ?_) _ | with_reducible exact tm_build _ _ | with_reducible exact tm_buildSlice _ _ _ | with_reducible exact tm_makeInterface _ _ | with_reducible exact tm_makeFunc _ _ _
    | with_reducible refine tm_bind ?_ fun _ => ?_
    | split
    | dsimp only
    | (rename_i b; cases b <;> simp only [Bool.false_eq_true, if_false, if_true, Bool.not_false, Bool.not_true])))
omit [Shift] in
theorem tm_intArith (o : BinOp) (k : IntKind) (a b : Int) : Tm P (Op.intArith o k a b) := by
  unfold Op.intArith
  (repeat' (first
    | with_reducible exact tm_pure _ | with_reducible exact tm_stuck _ | with_reducible exact tm_unsupported _ | with_reducible exact tm_goPanic _ | with_reducible exact tm_program | with_reducible exact tm_load _ _ | with_reducible exact tm_store _ _ _ | with_reducible exact tm_newObj _ | with_reducible exact tm_shape _ | with_reducible exact tm_frozen _ | with_reducible exact tm_getObj _ | with_reducible exact tm_choose _ | with_reducible exact tm_mark _ | with_reducible exact tm_typeInfo _ | with_reducible exact tm_underlying _ | with_reducible exact tm_sizeOf _ | with_reducible exact tm_zeroValue _ | with_reducible exact tm_isAgg _ | with_reducible exact tm_newRow _ _ | with_reducible exact tm_newVar _ _ | with_reducible exact tm_elemOf _ | with_reducible exact tm_panicString _ | with_reducible exact tm_runtimePanic _ | with_reducible refine tm_map _ ?_ | with_reducible exact tm_boundsPanic _ _ _ _ | with_reducible exact tm_asIntOf _ | with_reducible exact tm_asInt _ | with_reducible exact tm_asBool _ | with_reducible exact tm_asAgg _ | with_reducible exact tm_asAddr _ | with_reducible exact tm_sureAddr _ | with_reducible exact tm_loadCells _ _ | with_reducible exact tm_storeCells _ _ _ | with_reducible exact tm_loadVar _ _ | with_reducible exact tm_storeVar _ _ _ | with_reducible exact tm_part _ _ _ | with_reducible exact tm_askRoom _ | with_reducible exact tm_viewAt _ | with_reducible exact tm_numberAt _ | with_reducible exact tm_behindNumber _ | with_reducible exact tm_asNumber _ _ | with_reducible exact tm_noView _ | with_reducible exact tm_stringish _ | with_reducible exact tm_mayBeOne _ _ | with_reducible exact tm_sameAddr _ _ | with_reducible exact tm_samePointer _ _ | with_reducible exact tm_byteOf _ | with_reducible exact tm_partAt _ _ _ | with_reducible exact tm_fieldPlace _ _ | with_reducible exact tm_loadAt _ _ | with_reducible exact tm_storeAt _ _ _ | with_reducible exact tm_fieldAt _ _ _ | with_reducible exact tm_indexAt _ _ _ | with_reducible exact tm_sliceBound _ _ _ | with_reducible exact tm_sliceBounds _ _ _ _ _ _ | with_reducible exact tm_slice _ _ _ _ _ | with_reducible exact tm_sliceAt _ _ _ _ _ | with_reducible exact tm_makeSlice _ _ _ | with_reducible exact tm_alloc _ _ _ | with_reducible exact tm_box _ _ | with_reducible refine tm_mapMA (fun _ => ?_) _ | with_reducible exact tm_build _ _ | with_reducible exact tm_buildSlice _ _ _ | with_reducible exact tm_makeInterface _ _ | with_reducible exact tm_makeFunc _ _ _ | with_reducible exact tm_extract _ _
    | with_reducible refine tm_bind ?_ fun _ => ?_
    | split
    | dsimp only
    | (rename_i b; cases b <;> simp only [Bool.false_eq_true, if_false, if_true, Bool.not_false, Bool.not_true])))
omit [Shift] in
theorem tm_intCmp (o : BinOp) (a b : Int) : Tm P (Op.intCmp o a b) := by
  unfold Op.intCmp
  (repeat' (first
    | with_reducible exact tm_pure _ | with_reducible exact tm_stuck _ | with_reducible exact tm_unsupported _ | with_reducible exact tm_goPanic _ | with_reducible exact tm_program | with_reducible exact tm_load _ _ | with_reducible exact tm_store _ _ _ | with_reducible exact tm_newObj _ | with_reducible exact tm_shape _ | with_reducible exact tm_frozen _ | with_reducible exact tm_getObj _ | with_reducible exact tm_choose _ | with_reducible exact tm_mark _ | with_reducible exact tm_typeInfo _ | with_reducible exact tm_underlying _ | with_reducible exact tm_sizeOf _ | with_reducible exact tm_zeroValue _ | with_reducible exact tm_isAgg _ | with_reducible exact tm_newRow _ _ | with_reducible exact tm_newVar _ _ | with_reducible exact tm_elemOf _ | with_reducible exact tm_panicString _ | with_reducible exact tm_runtimePanic _ | with_reducible refine tm_map _ ?_ | with_reducible exact tm_boundsPanic _ _ _ _ | with_reducible exact tm_asIntOf _ | with_reducible exact tm_asInt _ | with_reducible exact tm_asBool _ | with_reducible exact tm_asAgg _ | with_reducible exact tm_asAddr _ | with_reducible exact tm_sureAddr _ | with_reducible exact tm_loadCells _ _ | with_reducible exact tm_storeCells _ _ _ | with_reducible exact tm_loadVar _ _ | with_reducible exact tm_storeVar _ _ _ | with_reducible exact tm_part _ _ _ | with_reducible exact tm_askRoom _ | with_reducible exact tm_viewAt _ | with_reducible exact tm_numberAt _ | with_reducible exact tm_behindNumber _ | with_reducible exact tm_asNumber _ _ | with_reducible exact tm_noView _ | with_reducible exact tm_stringish _ | with_reducible exact tm_mayBeOne _ _ | with_reducible exact tm_sameAddr _ _ | with_reducible exact tm_samePointer _ _ | with_reducible exact tm_byteOf _ | with_reducible exact tm_partAt _ _ _ | with_reducible exact tm_fieldPlace _ _ | with_reducible exact tm_loadAt _ _ | with_reducible exact tm_storeAt _ _ _ | with_reducible exact tm_fieldAt _ _ _ | with_reducible exact tm_indexAt _ _ _ | with_reducible exact tm_sliceBound _ _ _ | with_reducible exact tm_sliceBounds _ _ _ _ _ _ | with_reducible exact tm_slice _ _ _ _ _ | with_reducible exact tm_sliceAt _ _ _ _ _ | with_reducible exact tm_makeSlice _ _ _ | with_reducible exact tm_alloc _ _ _ | with_reducible exact tm_box _ _ | with_reducible refine tm_mapMA (fun _ => ?_) _ | with_reducible exact tm_build _ _ | with_reducible exact tm_buildSlice _ _ _ | with_reducible exact tm_makeInterface _ _ | with_reducible exact tm_makeFunc _ _ _ | with_reducible exact tm_extract _ _ | with_reducible exact tm_intArith _ _ _ _
    | with_reducible refine tm_bind ?_ fun _ => ?_
    | split
    | dsimp only
    | (rename_i b; cases b <;> simp only [Bool.false_eq_true, if_false, if_true, Bool.not_false, Bool.not_true])))
omit [Shift] in
theorem tm_intDiv (o : BinOp) (k : IntKind) (a b : Int) : Tm P (Op.intDiv o k a b) := by
  unfold Op.intDiv
  (repeat' (first
    | with_reducible exact tm_pure _ | with_reducible exact tm_stuck _ | with_reducible exact tm_unsupported _ | with_reducible exact tm_goPanic _ | with_reducible exact tm_program | with_reducible exact tm_load _ _ | with_reducible exact tm_store _ _ _ | with_reducible exact tm_newObj _ | with_reducible exact tm_shape _ | with_reducible exact tm_frozen _ | with_reducible exact tm_getObj _ | with_reducible exact tm_choose _ | with_reducible exact tm_mark _ | with_reducible exact tm_typeInfo _ | with_reducible exact tm_underlying _ | with_reducible exact tm_sizeOf _ | with_reducible exact tm_zeroValue _ | with_reducible exact tm_isAgg _ | with_reducible exact tm_newRow _ _ | with_reducible exact tm_newVar _ _ | with_reducible exact tm_elemOf _ | with_reducible exact tm_panicString _ | with_reducible exact tm_runtimePanic _ | with_reducible refine tm_map _ ?_ | with_reducible exact tm_boundsPanic _ _ _ _ | with_reducible exact tm_asIntOf _ | with_reducible exact tm_asInt _ | with_reducible exact tm_asBool _ | with_reducible exact tm_asAgg _ | with_reducible exact tm_asAddr _ | with_reducible exact tm_sureAddr _ | with_reducible exact tm_loadCells _ _ | with_reducible exact tm_storeCells _ _ _ | with_reducible exact tm_loadVar _ _ | with_reducible exact tm_storeVar _ _ _ | with_reducible exact tm_part _ _ _ | with_reducible exact tm_askRoom _ | with_reducible exact tm_viewAt _ | with_reducible exact tm_numberAt _ | with_reducible exact tm_behindNumber _ | with_reducible exact tm_asNumber _ _ | with_reducible exact tm_noView _ | with_reducible exact tm_stringish _ | with_reducible exact tm_mayBeOne _ _ | with_reducible exact tm_sameAddr _ _ | with_reducible exact tm_samePointer _ _ | with_reducible exact tm_byteOf _ | with_reducible exact tm_partAt _ _ _ | with_reducible exact tm_fieldPlace _ _ | with_reducible exact tm_loadAt _ _ | with_reducible exact tm_storeAt _ _ _ | with_reducible exact tm_fieldAt _ _ _ | with_reducible exact tm_indexAt _ _ _ | with_reducible exact tm_sliceBound _ _ _ | with_reducible exact tm_sliceBounds _ _ _ _ _ _ | with_reducible exact tm_slice _ _ _ _ _ | with_reducible exact tm_sliceAt _ _ _ _ _ | with_reducible exact tm_makeSlice _ _ _ | with_reducible exact tm_alloc _ _ _ | with_reducible exact tm_box _ _ | with_reducible refine tm_mapMA (fun _ => ?_) _ | with_reducible exact tm_build _ _ | with_reducible exact tm_buildSlice _ _ _ | with_reducible exact tm_makeInterface _ _ | with_reducible exact tm_makeFunc _ _ _ | with_reducible exact tm_extract _ _ | with_reducible exact tm_intArith _ _ _ _ | with_reducible exact tm_intCmp _ _ _
    | with_reducible refine tm_bind ?_ fun _ => ?_
    | split
    | dsimp only
    | (rename_i b; cases b <;> simp only [Bool.false_eq_true, if_false, if_true, Bool.not_false, Bool.not_true])))
omit [Shift] in
theorem tm_intBits (o : BinOp) (k : IntKind) (a b : Int) : Tm P (Op.intBits o k a b) := by
  unfold Op.intBits
  (repeat' (first
    | with_reducible exact tm_pure _ | with_reducible exact tm_stuck _ | with_reducible exact tm_unsupported _ | with_reducible exact tm_goPanic _ | with_reducible exact tm_program | with_reducible exact tm_load _ _ | with_reducible exact tm_store _ _ _ | with_reducible exact tm_newObj _ | with_reducible exact tm_shape _ | with_reducible exact tm_frozen _ | with_reducible exact tm_getObj _ | with_reducible exact tm_choose _ | with_reducible exact tm_mark _ | with_reducible exact tm_typeInfo _ | with_reducible exact tm_underlying _ | with_reducible exact tm_sizeOf _ | with_reducible exact tm_zeroValue _ | with_reducible exact tm_isAgg _ | with_reducible exact tm_newRow _ _ | with_reducible exact tm_newVar _ _ | with_reducible exact tm_elemOf _ | with_reducible exact tm_panicString _ | with_reducible exact tm_runtimePanic _ | with_reducible refine tm_map _ ?_ | with_reducible exact tm_boundsPanic _ _ _ _ | with_reducible exact tm_asIntOf _ | with_reducible exact tm_asInt _ | with_reducible exact tm_asBool _ | with_reducible exact tm_asAgg _ | with_reducible exact tm_asAddr _ | with_reducible exact tm_sureAddr _ | with_reducible exact tm_loadCells _ _ | with_reducible exact tm_storeCells _ _ _ | with_reducible exact tm_loadVar _ _ | with_reducible exact tm_storeVar _ _ _ | with_reducible exact tm_part _ _ _ | with_reducible exact tm_askRoom _ | with_reducible exact tm_viewAt _ | with_reducible exact tm_numberAt _ | with_reducible exact tm_behindNumber _ | with_reducible exact tm_asNumber _ _ | with_reducible exact tm_noView _ | with_reducible exact tm_stringish _ | with_reducible exact tm_mayBeOne _ _ | with_reducible exact tm_sameAddr _ _ | with_reducible exact tm_samePointer _ _ | with_reducible exact tm_byteOf _ | with_reducible exact tm_partAt _ _ _ | with_reducible exact tm_fieldPlace _ _ | with_reducible exact tm_loadAt _ _ | with_reducible exact tm_storeAt _ _ _ | with_reducible exact tm_fieldAt _ _ _ | with_reducible exact tm_indexAt _ _ _ | with_reducible exact tm_sliceBound _ _ _ | with_reducible exact tm_sliceBounds _ _ _ _ _ _ | with_reducible exact tm_slice _ _ _ _ _ | with_reducible exact tm_sliceAt _ _ _ _ _ | with_reducible exact tm_makeSlice _ _ _ | with_reducible exact tm_alloc _ _ _ | with_reducible exact tm_box _ _ | with_reducible refine tm_mapMA (fun _ => ?_) _ | with_reducible exact tm_build _ _ | with_reducible exact tm_buildSlice _ _ _ | with_reducible exact tm_makeInterface _ _ | with_reducible exact tm_makeFunc _ _ _ | with_reducible exact tm_extract _ _ | with_reducible exact tm_intArith _ _ _ _ | with_reducible exact tm_intCmp _ _ _ | with_reducible exact tm_intDiv _ _ _ _
    | with_reducible refine tm_bind ?_ fun _ => ?_
    | split
    | dsimp only
    | (rename_i b; cases b <;> simp only [Bool.false_eq_true, if_false, if_true, Bool.not_false, Bool.not_true])))
omit [Shift] in
theorem tm_shift (o : BinOp) (k : IntKind) (a : Int) (l : IntKind) (b : Int) : Tm P (Op.shift o k a l b) := by
  unfold Op.shift
  (repeat' (first
    | with_reducible exact tm_pure _ | with_reducible exact tm_stuck _ | with_reducible exact tm_unsupported _ | with_reducible exact tm_goPanic _ | with_reducible exact tm_program | with_reducible exact tm_load _ _ | with_reducible exact tm_store _ _ _ | with_reducible exact tm_newObj _ | with_reducible exact tm_shape _ | with_reducible exact tm_frozen _ | with_reducible exact tm_getObj _ | with_reducible exact tm_choose _ | with_reducible exact tm_mark _ | with_reducible exact tm_typeInfo _ | with_reducible exact tm_underlying _ | with_reducible exact tm_sizeOf _ | with_reducible exact tm_zeroValue _ | with_reducible exact tm_isAgg _ | with_reducible exact tm_newRow _ _ | with_reducible exact tm_newVar _ _ | with_reducible exact tm_elemOf _ | with_reducible exact tm_panicString _ | with_reducible exact tm_runtimePanic _ | with_reducible refine tm_map _ ?_ | with_reducible exact tm_boundsPanic _ _ _ _ | with_reducible exact tm_asIntOf _ | with_reducible exact tm_asInt _ | with_reducible exact tm_asBool _ | with_reducible exact tm_asAgg _ | with_reducible exact tm_asAddr _ | with_reducible exact tm_sureAddr _ | with_reducible exact tm_loadCells _ _ | with_reducible exact tm_storeCells _ _ _ | with_reducible exact tm_loadVar _ _ | with_reducible exact tm_storeVar _ _ _ | with_reducible exact tm_part _ _ _ | with_reducible exact tm_askRoom _ | with_reducible exact tm_viewAt _ | with_reducible exact tm_numberAt _ | with_reducible exact tm_behindNumber _ | with_reducible exact tm_asNumber _ _ | with_reducible exact tm_noView _ | with_reducible exact tm_stringish _ | with_reducible exact tm_mayBeOne _ _ | with_reducible exact tm_sameAddr _ _ | with_reducible exact tm_samePointer _ _ | with_reducible exact tm_byteOf _ | with_reducible exact tm_partAt _ _ _ | with_reducible exact tm_fieldPlace _ _ | with_reducible exact tm_loadAt _ _ | with_reducible exact tm_storeAt _ _ _ | with_reducible exact tm_fieldAt _ _ _ | with_reducible exact tm_indexAt _ _ _ | with_reducible exact tm_sliceBound _ _ _ | with_reducible exact tm_sliceBounds _ _ _ _ _ _ | with_reducible exact tm_slice _ _ _ _ _ | with_reducible exact tm_sliceAt _ _ _ _ _ | with_reducible exact tm_makeSlice _ _ _ | with_reducible exact tm_alloc _ _ _ | with_reducible exact tm_box _ _ | with_reducible refine tm_mapMA (fun _ => ?_) _ | with_reducible exact tm_build _ _ | with_reducible exact tm_buildSlice _ _ _ | with_reducible exact tm_makeInterface _ _ | with_reducible exact tm_makeFunc _ _ _ | with_reducible exact tm_extract _ _ | with_reducible exact tm_intArith _ _ _ _ | with_reducible exact tm_intCmp _ _ _ | with_reducible exact tm_intDiv _ _ _ _ | with_reducible exact tm_intBits _ _ _ _
    | with_reducible refine tm_bind ?_ fun _ => ?_
    | split
    | dsimp only
    | (rename_i b; cases b <;> simp only [Bool.false_eq_true, if_false, if_true, Bool.not_false, Bool.not_true])))
omit [Shift] in
theorem tm_stringOp (o : BinOp) (a b : ByteArray) : Tm P (Op.stringOp o a b) := by
  unfold Op.stringOp
  (repeat' (first
    | with_reducible exact tm_pure _ | with_reducible exact tm_stuck _ | with_reducible exact tm_unsupported _ | with_reducible exact tm_goPanic _ | with_reducible exact tm_program | with_reducible exact tm_load _ _ | with_reducible exact tm_store _ _ _ | with_reducible exact tm_newObj _ | with_reducible exact tm_shape _ | with_reducible exact tm_frozen _ | with_reducible exact tm_getObj _ | with_reducible exact tm_choose _ | with_reducible exact tm_mark _ | with_reducible exact tm_typeInfo _ | with_reducible exact tm_underlying _ | with_reducible exact tm_sizeOf _ | with_reducible exact tm_zeroValue _ | with_reducible exact tm_isAgg _ | with_reducible exact tm_newRow _ _ | with_reducible exact tm_newVar _ _ | with_reducible exact tm_elemOf _ | with_reducible exact tm_panicString _ | with_reducible exact tm_runtimePanic _ | with_reducible refine tm_map _ ?_ | with_reducible exact tm_boundsPanic _ _ _ _ | with_reducible exact tm_asIntOf _ | with_reducible exact tm_asInt _ | with_reducible exact tm_asBool _ | with_reducible exact tm_asAgg _ | with_reducible exact tm_asAddr _ | with_reducible exact tm_sureAddr _ | with_reducible exact tm_loadCells _ _ | with_reducible exact tm_storeCells _ _ _ | with_reducible exact tm_loadVar _ _ | with_reducible exact tm_storeVar _ _ _ | with_reducible exact tm_part _ _ _ | with_reducible exact tm_askRoom _ | with_reducible exact tm_viewAt _ | with_reducible exact tm_numberAt _ | with_reducible exact tm_behindNumber _ | with_reducible exact tm_asNumber _ _ | with_reducible exact tm_noView _ | with_reducible exact tm_stringish _ | with_reducible exact tm_mayBeOne _ _ | with_reducible exact tm_sameAddr _ _ | with_reducible exact tm_samePointer _ _ | with_reducible exact tm_byteOf _ | with_reducible exact tm_partAt _ _ _ | with_reducible exact tm_fieldPlace _ _ | with_reducible exact tm_loadAt _ _ | with_reducible exact tm_storeAt _ _ _ | with_reducible exact tm_fieldAt _ _ _ | with_reducible exact tm_indexAt _ _ _ | with_reducible exact tm_sliceBound _ _ _ | with_reducible exact tm_sliceBounds _ _ _ _ _ _ | with_reducible exact tm_slice _ _ _ _ _ | with_reducible exact tm_sliceAt _ _ _ _ _ | with_reducible exact tm_makeSlice _ _ _ | with_reducible exact tm_alloc _ _ _ | with_reducible exact tm_box _ _ | with_reducible refine tm_mapMA (fun _ => ?_) _ | with_reducible exact tm_build _ _ | with_reducible exact tm_buildSlice _ _ _ | with_reducible exact tm_makeInterface _ _ | with_reducible exact tm_makeFunc _ _ _ | with_reducible exact tm_extract _ _ | with_reducible exact tm_intArith _ _ _ _ | with_reducible exact tm_intCmp _ _ _ | with_reducible exact tm_intDiv _ _ _ _ | with_reducible exact tm_intBits _ _ _ _ | with_reducible exact tm_shift _ _ _ _ _
    | with_reducible refine tm_bind ?_ fun _ => ?_
    | split
    | dsimp only
    | (rename_i b; cases b <;> simp only [Bool.false_eq_true, if_false, if_true, Bool.not_false, Bool.not_true])))
omit [Shift] in
theorem tm_lenOf (v : Value) : Tm P (Builtin.lenOf v) := by
  unfold Builtin.lenOf
  (repeat' (first
    | with_reducible exact tm_pure _ | with_reducible exact tm_stuck _ | with_reducible exact tm_unsupported _ | with_reducible exact tm_goPanic _ | with_reducible exact tm_program | with_reducible exact tm_load _ _ | with_reducible exact tm_store _ _ _ | with_reducible exact tm_newObj _ | with_reducible exact tm_shape _ | with_reducible exact tm_frozen _ | with_reducible exact tm_getObj _ | with_reducible exact tm_choose _ | with_reducible exact tm_mark _ | with_reducible exact tm_typeInfo _ | with_reducible exact tm_underlying _ | with_reducible exact tm_sizeOf _ | with_reducible exact tm_zeroValue _ | with_reducible exact tm_isAgg _ | with_reducible exact tm_newRow _ _ | with_reducible exact tm_newVar _ _ | with_reducible exact tm_elemOf _ | with_reducible exact tm_panicString _ | with_reducible exact tm_runtimePanic _ | with_reducible refine tm_map _ ?_ | with_reducible exact tm_boundsPanic _ _ _ _ | with_reducible exact tm_asIntOf _ | with_reducible exact tm_asInt _ | with_reducible exact tm_asBool _ | with_reducible exact tm_asAgg _ | with_reducible exact tm_asAddr _ | with_reducible exact tm_sureAddr _ | with_reducible exact tm_loadCells _ _ | with_reducible exact tm_storeCells _ _ _ | with_reducible exact tm_loadVar _ _ | with_reducible exact tm_storeVar _ _ _ | with_reducible exact tm_part _ _ _ | with_reducible exact tm_askRoom _ | with_reducible exact tm_viewAt _ | with_reducible exact tm_numberAt _ | with_reducible exact tm_behindNumber _ | with_reducible exact tm_asNumber _ _ | with_reducible exact tm_noView _ | with_reducible exact tm_stringish _ | with_reducible exact tm_mayBeOne _ _ | with_reducible exact tm_sameAddr _ _ | with_reducible exact tm_samePointer _ _ | with_reducible exact tm_byteOf _ | with_reducible exact tm_partAt _ _ _ | with_reducible exact tm_fieldPlace _ _ | with_reducible exact tm_loadAt _ _ | with_reducible exact tm_storeAt _ _ _ | with_reducible exact tm_fieldAt _ _ _ | with_reducible exact tm_indexAt _ _ _ | with_reducible exact tm_sliceBound _ _ _ | with_reducible exact tm_sliceBounds _ _ _ _ _ _ | with_reducible exact tm_slice _ _ _ _ _ | with_reducible exact tm_sliceAt _ _ _ _ _ | with_reducible exact tm_makeSlice _ _ _ | with_reducible exact tm_alloc _ _ _ | with_reducible exact tm_box _ _ | with_reducible refine tm_mapMA (fun _ => ?_) _ | with_reducible exact tm_build _ _ | with_reducible exact tm_buildSlice _ _ _ | with_reducible exact tm_makeInterface _ _ | with_reducible exact tm_makeFunc _ _ _ | with_reducible exact tm_extract _ _ | with_reducible exact tm_intArith _ _ _ _ | with_reducible exact tm_intCmp _ _ _ | with_reducible exact tm_intDiv _ _ _ _ | with_reducible exact tm_intBits _ _ _ _ | with_reducible exact tm_shift _ _ _ _ _ | with_reducible exact tm_stringOp _ _ _
    | with_reducible refine tm_bind ?_ fun _ => ?_
    | split
    | dsimp only
    | (rename_i b; cases b <;> simp only [Bool.false_eq_true, if_false, if_true, Bool.not_false, Bool.not_true])))
omit [Shift] in
theorem tm_firstCells (a b : Nat) (v : Value) : Tm P (Builtin.firstCells a b v) := by
  unfold Builtin.firstCells
  (repeat' (first
    | with_reducible exact tm_pure _ | with_reducible exact tm_stuck _ | with_reducible exact tm_unsupported _ | with_reducible exact tm_goPanic _ | with_reducible exact tm_program | with_reducible exact tm_load _ _ | with_reducible exact tm_store _ _ _ | with_reducible exact tm_newObj _ | with_reducible exact tm_shape _ | with_reducible exact tm_frozen _ | with_reducible exact tm_getObj _ | with_reducible exact tm_choose _ | with_reducible exact tm_mark _ | with_reducible exact tm_typeInfo _ | with_reducible exact tm_underlying _ | with_reducible exact tm_sizeOf _ | with_reducible exact tm_zeroValue _ | with_reducible exact tm_isAgg _ | with_reducible exact tm_newRow _ _ | with_reducible exact tm_newVar _ _ | with_reducible exact tm_elemOf _ | with_reducible exact tm_panicString _ | with_reducible exact tm_runtimePanic _ | with_reducible refine tm_map _ ?_ | with_reducible exact tm_boundsPanic _ _ _ _ | with_reducible exact tm_asIntOf _ | with_reducible exact tm_asInt _ | with_reducible exact tm_asBool _ | with_reducible exact tm_asAgg _ | with_reducible exact tm_asAddr _ | with_reducible exact tm_sureAddr _ | with_reducible exact tm_loadCells _ _ | with_reducible exact tm_storeCells _ _ _ | with_reducible exact tm_loadVar _ _ | with_reducible exact tm_storeVar _ _ _ | with_reducible exact tm_part _ _ _ | with_reducible exact tm_askRoom _ | with_reducible exact tm_viewAt _ | with_reducible exact tm_numberAt _ | with_reducible exact tm_behindNumber _ | with_reducible exact tm_asNumber _ _ | with_reducible exact tm_noView _ | with_reducible exact tm_stringish _ | with_reducible exact tm_mayBeOne _ _ | with_reducible exact tm_sameAddr _ _ | with_reducible exact tm_samePointer _ _ | with_reducible exact tm_byteOf _ | with_reducible exact tm_partAt _ _ _ | with_reducible exact tm_fieldPlace _ _ | with_reducible exact tm_loadAt _ _ | with_reducible exact tm_storeAt _ _ _ | with_reducible exact tm_fieldAt _ _ _ | with_reducible exact tm_indexAt _ _ _ | with_reducible exact tm_sliceBound _ _ _ | with_reducible exact tm_sliceBounds _ _ _ _ _ _ | with_reducible exact tm_slice _ _ _ _ _ | with_reducible exact tm_sliceAt _ _ _ _ _ | with_reducible exact tm_makeSlice _ _ _ | with_reducible exact tm_alloc _ _ _ | with_reducible exact tm_box _ _ | with_reducible refine tm_mapMA (fun _ => ?_) _ | with_reducible exact tm_build _ _ | with_reducible exact tm_buildSlice _ _ _ | with_reducible exact tm_makeInterface _ _ | with_reducible exact tm_makeFunc _ _ _ | with_reducible exact tm_extract _ _ | with_reducible exact tm_intArith _ _ _ _ | with_reducible exact tm_intCmp _ _ _ | with_reducible exact tm_intDiv _ _ _ _ | with_reducible exact tm_intBits _ _ _ _ | with_reducible exact tm_shift _ _ _ _ _ | with_reducible exact tm_stringOp _ _ _ | with_reducible exact tm_lenOf _
    | with_reducible refine tm_bind ?_ fun _ => ?_
    | split
    | dsimp only
    | (rename_i b; cases b <;> simp only [Bool.false_eq_true, if_false, if_true, Bool.not_false, Bool.not_true])))
omit [Shift] in
theorem tm_holdsCells (a : Addr) (n : Nat) : Tm P (Builtin.holdsCells a n) := by
  unfold Builtin.holdsCells
  (repeat' (first
    | with_reducible exact tm_pure _ | with_reducible exact tm_stuck _ | with_reducible exact tm_unsupported _ | with_reducible exact tm_goPanic _ | with_reducible exact tm_program | with_reducible exact tm_load _ _ | with_reducible exact tm_store _ _ _ | with_reducible exact tm_newObj _ | with_reducible exact tm_shape _ | with_reducible exact tm_frozen _ | with_reducible exact tm_getObj _ | with_reducible exact tm_choose _ | with_reducible exact tm_mark _ | with_reducible exact tm_typeInfo _ | with_reducible exact tm_underlying _ | with_reducible exact tm_sizeOf _ | with_reducible exact tm_zeroValue _ | with_reducible exact tm_isAgg _ | with_reducible exact tm_newRow _ _ | with_reducible exact tm_newVar _ _ | with_reducible exact tm_elemOf _ | with_reducible exact tm_panicString _ | with_reducible exact tm_runtimePanic _ | with_reducible refine tm_map _ ?_ | with_reducible exact tm_boundsPanic _ _ _ _ | with_reducible exact tm_asIntOf _ | with_reducible exact tm_asInt _ | with_reducible exact tm_asBool _ | with_reducible exact tm_asAgg _ | with_reducible exact tm_asAddr _ | with_reducible exact tm_sureAddr _ | with_reducible exact tm_loadCells _ _ | with_reducible exact tm_storeCells _ _ _ | with_reducible exact tm_loadVar _ _ | with_reducible exact tm_storeVar _ _ _ | with_reducible exact tm_part _ _ _ | with_reducible exact tm_askRoom _ | with_reducible exact tm_viewAt _ | with_reducible exact tm_numberAt _ | with_reducible exact tm_behindNumber _ | with_reducible exact tm_asNumber _ _ | with_reducible exact tm_noView _ | with_reducible exact tm_stringish _ | with_reducible exact tm_mayBeOne _ _ | with_reducible exact tm_sameAddr _ _ | with_reducible exact tm_samePointer _ _ | with_reducible exact tm_byteOf _ | with_reducible exact tm_partAt _ _ _ | with_reducible exact tm_fieldPlace _ _ | with_reducible exact tm_loadAt _ _ | with_reducible exact tm_storeAt _ _ _ | with_reducible exact tm_fieldAt _ _ _ | with_reducible exact tm_indexAt _ _ _ | with_reducible exact tm_sliceBound _ _ _ | with_reducible exact tm_sliceBounds _ _ _ _ _ _ | with_reducible exact tm_slice _ _ _ _ _ | with_reducible exact tm_sliceAt _ _ _ _ _ | with_reducible exact tm_makeSlice _ _ _ | with_reducible exact tm_alloc _ _ _ | with_reducible exact tm_box _ _ | with_reducible refine tm_mapMA (fun _ => ?_) _ | with_reducible exact tm_build _ _ | with_reducible exact tm_buildSlice _ _ _ | with_reducible exact tm_makeInterface _ _ | with_reducible exact tm_makeFunc _ _ _ | with_reducible exact tm_extract _ _ | with_reducible exact tm_intArith _ _ _ _ | with_reducible exact tm_intCmp _ _ _ | with_reducible exact tm_intDiv _ _ _ _ | with_reducible exact tm_intBits _ _ _ _ | with_reducible exact tm_shift _ _ _ _ _ | with_reducible exact tm_stringOp _ _ _ | with_reducible exact tm_lenOf _ | with_reducible exact tm_firstCells _ _ _
    | with_reducible refine tm_bind ?_ fun _ => ?_
    | split
    | dsimp only
    | (rename_i b; cases b <;> simp only [Bool.false_eq_true, if_false, if_true, Bool.not_false, Bool.not_true])))
omit [Shift] in
theorem tm_mayShare (a b c : Nat) (o : Option Addr) (v : Value) : Tm P (Builtin.mayShare a b c o v) := by
  unfold Builtin.mayShare
  (repeat' (first
    | with_reducible exact tm_pure _ | with_reducible exact tm_stuck _ | with_reducible exact tm_unsupported _ | with_reducible exact tm_goPanic _ | with_reducible exact tm_program | with_reducible exact tm_load _ _ | with_reducible exact tm_store _ _ _ | with_reducible exact tm_newObj _ | with_reducible exact tm_shape _ | with_reducible exact tm_frozen _ | with_reducible exact tm_getObj _ | with_reducible exact tm_choose _ | with_reducible exact tm_mark _ | with_reducible exact tm_typeInfo _ | with_reducible exact tm_underlying _ | with_reducible exact tm_sizeOf _ | with_reducible exact tm_zeroValue _ | with_reducible exact tm_isAgg _ | with_reducible exact tm_newRow _ _ | with_reducible exact tm_newVar _ _ | with_reducible exact tm_elemOf _ | with_reducible exact tm_panicString _ | with_reducible exact tm_runtimePanic _ | with_reducible refine tm_map _ ?_ | with_reducible exact tm_boundsPanic _ _ _ _ | with_reducible exact tm_asIntOf _ | with_reducible exact tm_asInt _ | with_reducible exact tm_asBool _ | with_reducible exact tm_asAgg _ | with_reducible exact tm_asAddr _ | with_reducible exact tm_sureAddr _ | with_reducible exact tm_loadCells _ _ | with_reducible exact tm_storeCells _ _ _ | with_reducible exact tm_loadVar _ _ | with_reducible exact tm_storeVar _ _ _ | with_reducible exact tm_part _ _ _ | with_reducible exact tm_askRoom _ | with_reducible exact tm_viewAt _ | with_reducible exact tm_numberAt _ | with_reducible exact tm_behindNumber _ | with_reducible exact tm_asNumber _ _ | with_reducible exact tm_noView _ | with_reducible exact tm_stringish _ | with_reducible exact tm_mayBeOne _ _ | with_reducible exact tm_sameAddr _ _ | with_reducible exact tm_samePointer _ _ | with_reducible exact tm_byteOf _ | with_reducible exact tm_partAt _ _ _ | with_reducible exact tm_fieldPlace _ _ | with_reducible exact tm_loadAt _ _ | with_reducible exact tm_storeAt _ _ _ | with_reducible exact tm_fieldAt _ _ _ | with_reducible exact tm_indexAt _ _ _ | with_reducible exact tm_sliceBound _ _ _ | with_reducible exact tm_sliceBounds _ _ _ _ _ _ | with_reducible exact tm_slice _ _ _ _ _ | with_reducible exact tm_sliceAt _ _ _ _ _ | with_reducible exact tm_makeSlice _ _ _ | with_reducible exact tm_alloc _ _ _ | with_reducible exact tm_box _ _ | with_reducible refine tm_mapMA (fun _ => ?_) _ | with_reducible exact tm_build _ _ | with_reducible exact tm_buildSlice _ _ _ | with_reducible exact tm_makeInterface _ _ | with_reducible exact tm_makeFunc _ _ _ | with_reducible exact tm_extract _ _ | with_reducible exact tm_intArith _ _ _ _ | with_reducible exact tm_intCmp _ _ _ | with_reducible exact tm_intDiv _ _ _ _ | with_reducible exact tm_intBits _ _ _ _ | with_reducible exact tm_shift _ _ _ _ _ | with_reducible exact tm_stringOp _ _ _ | with_reducible exact tm_lenOf _ | with_reducible exact tm_firstCells _ _ _ | with_reducible exact tm_holdsCells _ _
    | with_reducible refine tm_bind ?_ fun _ => ?_
    | split
    | dsimp only
    | (rename_i b; cases b <;> simp only [Bool.false_eq_true, if_false, if_true, Bool.not_false, Bool.not_true])))
omit [Shift] in
theorem tm_bind' {α β : Type} {s : Sem α} {f : α → Sem β} (h : Tm P s) (hf : ∀ a, (∃ w w1, s.run P w = .ok a w1) → Tm P (f a)) : Tm P (s >>= f) := fun w => by
  have h1 := h w
  rw [Sem.run_bind]
  cases hs : s.run P w with
  | halt e we =>
    rw [hs] at h1
    exact h1
  | ok a w1 =>
    rw [hs] at h1
    obtain ⟨d1, t1⟩ := h1
    have h2 := hf a ⟨w, w1, hs⟩ w1
    simp only [Result.andThen_ok]
    cases hs2 : (f a).run P w1 with
    | halt e we => rw [hs2] at h2; exact h2
    | ok b w2 =>
      rw [hs2] at h2
      obtain ⟨d2, t2⟩ := h2
      refine ⟨d1.trans d2, fun T hT => ?_⟩
      rw [Sem.run_bind, t1 T (hT.left d2.le), Result.andThen_ok]
      exact t2 T (by rw [d1.tape]; exact hT.right d1.le)
omit [Shift] in
theorem tm_append {ts : Array TypeId} (hn : ∀ t k, ts[1]? = some t → P.underlying t ≠ some (.int k)) (ty : TypeId) (a : Array Value) : Tm P (Builtin.append_ ts ty a) := by
  unfold Builtin.append_
  cases ht : ts[0]? with
  | none => exact tm_stuck _
  | some t =>
    cases ha : a[0]? with
    | none => exact tm_stuck _
    | some v =>
      cases hb : a[1]? with
      | none => exact tm_stuck _
      | some u =>
        refine tm_bind (tm_underlying _) fun d => ?_
        cases d <;> (try dsimp only) <;> first | exact tm_stuck _ | skip
        cases v <;> (try dsimp only) <;> first | exact tm_stuck _ | skip
        refine tm_bind (tm_sizeOf _) fun size => ?_
        cases hx1 : ts[1]? with
        | none =>
          refine tm_bind' (tm_pure false) fun b hb => ?_
          obtain rfl : b = false := by obtain ⟨w, w1, hb⟩ := hb; simp at hb; exact hb.1
          simp only [Bool.false_eq_true, if_false, Bool.not_false, if_true, false_or]
          (repeat' (first
            | with_reducible exact tm_pure _ | with_reducible exact tm_stuck _ | with_reducible exact tm_unsupported _ | with_reducible exact tm_goPanic _ | with_reducible exact tm_program | with_reducible exact tm_load _ _ | with_reducible exact tm_store _ _ _ | with_reducible exact tm_newObj _ | with_reducible exact tm_shape _ | with_reducible exact tm_frozen _ | with_reducible exact tm_getObj _ | with_reducible exact tm_choose _ | with_reducible exact tm_mark _ | with_reducible exact tm_typeInfo _ | with_reducible exact tm_underlying _ | with_reducible exact tm_sizeOf _ | with_reducible exact tm_zeroValue _ | with_reducible exact tm_isAgg _ | with_reducible exact tm_newRow _ _ | with_reducible exact tm_newVar _ _ | with_reducible exact tm_elemOf _ | with_reducible exact tm_panicString _ | with_reducible exact tm_runtimePanic _ | with_reducible refine tm_map _ ?_ | with_reducible exact tm_boundsPanic _ _ _ _ | with_reducible exact tm_asIntOf _ | with_reducible exact tm_asInt _ | with_reducible exact tm_asBool _ | with_reducible exact tm_asAgg _ | with_reducible exact tm_asAddr _ | with_reducible exact tm_sureAddr _ | with_reducible exact tm_loadCells _ _ | with_reducible exact tm_storeCells _ _ _ | with_reducible exact tm_loadVar _ _ | with_reducible exact tm_storeVar _ _ _ | with_reducible exact tm_part _ _ _ | with_reducible exact tm_askRoom _ | with_reducible exact tm_viewAt _ | with_reducible exact tm_numberAt _ | with_reducible exact tm_behindNumber _ | with_reducible exact tm_asNumber _ _ | with_reducible exact tm_noView _ | with_reducible exact tm_stringish _ | with_reducible exact tm_mayBeOne _ _ | with_reducible exact tm_sameAddr _ _ | with_reducible exact tm_samePointer _ _ | with_reducible exact tm_byteOf _ | with_reducible exact tm_partAt _ _ _ | with_reducible exact tm_fieldPlace _ _ | with_reducible exact tm_loadAt _ _ | with_reducible exact tm_storeAt _ _ _ | with_reducible exact tm_fieldAt _ _ _ | with_reducible exact tm_indexAt _ _ _ | with_reducible exact tm_sliceBound _ _ _ | with_reducible exact tm_sliceBounds _ _ _ _ _ _ | with_reducible exact tm_slice _ _ _ _ _ | with_reducible exact tm_sliceAt _ _ _ _ _ | with_reducible exact tm_makeSlice _ _ _ | with_reducible exact tm_alloc _ _ _ | with_reducible exact tm_box _ _ | with_reducible refine tm_mapMA (fun _ => ?_) _ | with_reducible exact tm_build _ _ | with_reducible exact tm_buildSlice _ _ _ | with_reducible exact tm_makeInterface _ _ | with_reducible exact tm_makeFunc _ _ _ | with_reducible exact tm_extract _ _ | with_reducible exact tm_intArith _ _ _ _ | with_reducible exact tm_intCmp _ _ _ | with_reducible exact tm_intDiv _ _ _ _ | with_reducible exact tm_intBits _ _ _ _ | with_reducible exact tm_shift _ _ _ _ _ | with_reducible exact tm_stringOp _ _ _ | with_reducible exact tm_lenOf _ | with_reducible exact tm_firstCells _ _ _ | with_reducible exact tm_holdsCells _ _ | with_reducible exact tm_mayShare _ _ _ _ _
            | with_reducible refine tm_bind ?_ fun _ => ?_
            | split
            | dsimp only
            | (rename_i b; cases b <;> simp only [Bool.false_eq_true, if_false, if_true, Bool.not_false, Bool.not_true])))
        | some xt =>
          refine tm_bind' (tm_underlying _) fun d2 hd2 => ?_
          refine tm_bind' (tm_pure _) fun b hb => ?_
          obtain rfl : b = false := by
            obtain ⟨w, w1, hb⟩ := hb
            simp only [Sem.run_pure, Result.ok.injEq] at hb
            rw [← hb.1]
            have : P.underlying xt = some d2 := by
              obtain ⟨w, w1, hd2⟩ := hd2
              obtain ⟨rfl, _⟩ := hf_underlying (P := P) xt w d2 w1 hd2
              exact underlying_of ⟨_, hd2⟩
            cases d2 <;> first | rfl | exact absurd this (hn _ _ hx1)
          simp only [Bool.false_eq_true, if_false, Bool.not_false, if_true, false_or]
          (repeat' (first
            | with_reducible exact tm_pure _ | with_reducible exact tm_stuck _ | with_reducible exact tm_unsupported _ | with_reducible exact tm_goPanic _ | with_reducible exact tm_program | with_reducible exact tm_load _ _ | with_reducible exact tm_store _ _ _ | with_reducible exact tm_newObj _ | with_reducible exact tm_shape _ | with_reducible exact tm_frozen _ | with_reducible exact tm_getObj _ | with_reducible exact tm_choose _ | with_reducible exact tm_mark _ | with_reducible exact tm_typeInfo _ | with_reducible exact tm_underlying _ | with_reducible exact tm_sizeOf _ | with_reducible exact tm_zeroValue _ | with_reducible exact tm_isAgg _ | with_reducible exact tm_newRow _ _ | with_reducible exact tm_newVar _ _ | with_reducible exact tm_elemOf _ | with_reducible exact tm_panicString _ | with_reducible exact tm_runtimePanic _ | with_reducible refine tm_map _ ?_ | with_reducible exact tm_boundsPanic _ _ _ _ | with_reducible exact tm_asIntOf _ | with_reducible exact tm_asInt _ | with_reducible exact tm_asBool _ | with_reducible exact tm_asAgg _ | with_reducible exact tm_asAddr _ | with_reducible exact tm_sureAddr _ | with_reducible exact tm_loadCells _ _ | with_reducible exact tm_storeCells _ _ _ | with_reducible exact tm_loadVar _ _ | with_reducible exact tm_storeVar _ _ _ | with_reducible exact tm_part _ _ _ | with_reducible exact tm_askRoom _ | with_reducible exact tm_viewAt _ | with_reducible exact tm_numberAt _ | with_reducible exact tm_behindNumber _ | with_reducible exact tm_asNumber _ _ | with_reducible exact tm_noView _ | with_reducible exact tm_stringish _ | with_reducible exact tm_mayBeOne _ _ | with_reducible exact tm_sameAddr _ _ | with_reducible exact tm_samePointer _ _ | with_reducible exact tm_byteOf _ | with_reducible exact tm_partAt _ _ _ | with_reducible exact tm_fieldPlace _ _ | with_reducible exact tm_loadAt _ _ | with_reducible exact tm_storeAt _ _ _ | with_reducible exact tm_fieldAt _ _ _ | with_reducible exact tm_indexAt _ _ _ | with_reducible exact tm_sliceBound _ _ _ | with_reducible exact tm_sliceBounds _ _ _ _ _ _ | with_reducible exact tm_slice _ _ _ _ _ | with_reducible exact tm_sliceAt _ _ _ _ _ | with_reducible exact tm_makeSlice _ _ _ | with_reducible exact tm_alloc _ _ _ | with_reducible exact tm_box _ _ | with_reducible refine tm_mapMA (fun _ => ?_) _ | with_reducible exact tm_build _ _ | with_reducible exact tm_buildSlice _ _ _ | with_reducible exact tm_makeInterface _ _ | with_reducible exact tm_makeFunc _ _ _ | with_reducible exact tm_extract _ _ | with_reducible exact tm_intArith _ _ _ _ | with_reducible exact tm_intCmp _ _ _ | with_reducible exact tm_intDiv _ _ _ _ | with_reducible exact tm_intBits _ _ _ _ | with_reducible exact tm_shift _ _ _ _ _ | with_reducible exact tm_stringOp _ _ _ | with_reducible exact tm_lenOf _ | with_reducible exact tm_firstCells _ _ _ | with_reducible exact tm_holdsCells _ _ | with_reducible exact tm_mayShare _ _ _ _ _
            | with_reducible refine tm_bind ?_ fun _ => ?_
            | split
            | dsimp only
            | (rename_i b; cases b <;> simp only [Bool.false_eq_true, if_false, if_true, Bool.not_false, Bool.not_true])))
omit [Shift] in
theorem tm_copy (ts : Array TypeId) (t : TypeId) (a : Array Value) : Tm P (Builtin.copy_ ts t a) := by
  unfold Builtin.copy_
  (repeat' (first
    | with_reducible exact tm_pure _ | with_reducible exact tm_stuck _ | with_reducible exact tm_unsupported _ | with_reducible exact tm_goPanic _ | with_reducible exact tm_program | with_reducible exact tm_load _ _ | with_reducible exact tm_store _ _ _ | with_reducible exact tm_newObj _ | with_reducible exact tm_shape _ | with_reducible exact tm_frozen _ | with_reducible exact tm_getObj _ | with_reducible exact tm_choose _ | with_reducible exact tm_mark _ | with_reducible exact tm_typeInfo _ | with_reducible exact tm_underlying _ | with_reducible exact tm_sizeOf _ | with_reducible exact tm_zeroValue _ | with_reducible exact tm_isAgg _ | with_reducible exact tm_newRow _ _ | with_reducible exact tm_newVar _ _ | with_reducible exact tm_elemOf _ | with_reducible exact tm_panicString _ | with_reducible exact tm_runtimePanic _ | with_reducible refine tm_map _ ?_ | with_reducible exact tm_boundsPanic _ _ _ _ | with_reducible exact tm_asIntOf _ | with_reducible exact tm_asInt _ | with_reducible exact tm_asBool _ | with_reducible exact tm_asAgg _ | with_reducible exact tm_asAddr _ | with_reducible exact tm_sureAddr _ | with_reducible exact tm_loadCells _ _ | with_reducible exact tm_storeCells _ _ _ | with_reducible exact tm_loadVar _ _ | with_reducible exact tm_storeVar _ _ _ | with_reducible exact tm_part _ _ _ | with_reducible exact tm_askRoom _ | with_reducible exact tm_viewAt _ | with_reducible exact tm_numberAt _ | with_reducible exact tm_behindNumber _ | with_reducible exact tm_asNumber _ _ | with_reducible exact tm_noView _ | with_reducible exact tm_stringish _ | with_reducible exact tm_mayBeOne _ _ | with_reducible exact tm_sameAddr _ _ | with_reducible exact tm_samePointer _ _ | with_reducible exact tm_byteOf _ | with_reducible exact tm_partAt _ _ _ | with_reducible exact tm_fieldPlace _ _ | with_reducible exact tm_loadAt _ _ | with_reducible exact tm_storeAt _ _ _ | with_reducible exact tm_fieldAt _ _ _ | with_reducible exact tm_indexAt _ _ _ | with_reducible exact tm_sliceBound _ _ _ | with_reducible exact tm_sliceBounds _ _ _ _ _ _ | with_reducible exact tm_slice _ _ _ _ _ | with_reducible exact tm_sliceAt _ _ _ _ _ | with_reducible exact tm_makeSlice _ _ _ | with_reducible exact tm_alloc _ _ _ | with_reducible exact tm_box _ _ | with_reducible refine tm_mapMA (fun _ => ?_) _ | with_reducible exact tm_build _ _ | with_reducible exact tm_buildSlice _ _ _ | with_reducible exact tm_makeInterface _ _ | with_reducible exact tm_makeFunc _ _ _ | with_reducible exact tm_extract _ _ | with_reducible exact tm_intArith _ _ _ _ | with_reducible exact tm_intCmp _ _ _ | with_reducible exact tm_intDiv _ _ _ _ | with_reducible exact tm_intBits _ _ _ _ | with_reducible exact tm_shift _ _ _ _ _ | with_reducible exact tm_stringOp _ _ _ | with_reducible exact tm_lenOf _ | with_reducible exact tm_firstCells _ _ _ | with_reducible exact tm_holdsCells _ _ | with_reducible exact tm_mayShare _ _ _ _ _
    | with_reducible refine tm_bind ?_ fun _ => ?_
    | split
    | dsimp only
    | (rename_i b; cases b <;> simp only [Bool.false_eq_true, if_false, if_true, Bool.not_false, Bool.not_true])))
omit [Shift] in
theorem tm_len (ts : Array TypeId) (t : TypeId) (a : Array Value) : Tm P (Builtin.len_ ts t a) := by
  unfold Builtin.len_
  (repeat' (first
    | with_reducible exact tm_pure _ | with_reducible exact tm_stuck _ | with_reducible exact tm_unsupported _ | with_reducible exact tm_goPanic _ | with_reducible exact tm_program | with_reducible exact tm_load _ _ | with_reducible exact tm_store _ _ _ | with_reducible exact tm_newObj _ | with_reducible exact tm_shape _ | with_reducible exact tm_frozen _ | with_reducible exact tm_getObj _ | with_reducible exact tm_choose _ | with_reducible exact tm_mark _ | with_reducible exact tm_typeInfo _ | with_reducible exact tm_underlying _ | with_reducible exact tm_sizeOf _ | with_reducible exact tm_zeroValue _ | with_reducible exact tm_isAgg _ | with_reducible exact tm_newRow _ _ | with_reducible exact tm_newVar _ _ | with_reducible exact tm_elemOf _ | with_reducible exact tm_panicString _ | with_reducible exact tm_runtimePanic _ | with_reducible refine tm_map _ ?_ | with_reducible exact tm_boundsPanic _ _ _ _ | with_reducible exact tm_asIntOf _ | with_reducible exact tm_asInt _ | with_reducible exact tm_asBool _ | with_reducible exact tm_asAgg _ | with_reducible exact tm_asAddr _ | with_reducible exact tm_sureAddr _ | with_reducible exact tm_loadCells _ _ | with_reducible exact tm_storeCells _ _ _ | with_reducible exact tm_loadVar _ _ | with_reducible exact tm_storeVar _ _ _ | with_reducible exact tm_part _ _ _ | with_reducible exact tm_askRoom _ | with_reducible exact tm_viewAt _ | with_reducible exact tm_numberAt _ | with_reducible exact tm_behindNumber _ | with_reducible exact tm_asNumber _ _ | with_reducible exact tm_noView _ | with_reducible exact tm_stringish _ | with_reducible exact tm_mayBeOne _ _ | with_reducible exact tm_sameAddr _ _ | with_reducible exact tm_samePointer _ _ | with_reducible exact tm_byteOf _ | with_reducible exact tm_partAt _ _ _ | with_reducible exact tm_fieldPlace _ _ | with_reducible exact tm_loadAt _ _ | with_reducible exact tm_storeAt _ _ _ | with_reducible exact tm_fieldAt _ _ _ | with_reducible exact tm_indexAt _ _ _ | with_reducible exact tm_sliceBound _ _ _ | with_reducible exact tm_sliceBounds _ _ _ _ _ _ | with_reducible exact tm_slice _ _ _ _ _ | with_reducible exact tm_sliceAt _ _ _ _ _ | with_reducible exact tm_makeSlice _ _ _ | with_reducible exact tm_alloc _ _ _ | with_reducible exact tm_box _ _ | with_reducible refine tm_mapMA (fun _ => ?_) _ | with_reducible exact tm_build _ _ | with_reducible exact tm_buildSlice _ _ _ | with_reducible exact tm_makeInterface _ _ | with_reducible exact tm_makeFunc _ _ _ | with_reducible exact tm_extract _ _ | with_reducible exact tm_intArith _ _ _ _ | with_reducible exact tm_intCmp _ _ _ | with_reducible exact tm_intDiv _ _ _ _ | with_reducible exact tm_intBits _ _ _ _ | with_reducible exact tm_shift _ _ _ _ _ | with_reducible exact tm_stringOp _ _ _ | with_reducible exact tm_lenOf _ | with_reducible exact tm_firstCells _ _ _ | with_reducible exact tm_holdsCells _ _ | with_reducible exact tm_mayShare _ _ _ _ _ | with_reducible exact tm_copy _ _ _
    | with_reducible refine tm_bind ?_ fun _ => ?_
    | split
    | dsimp only
    | (rename_i b; cases b <;> simp only [Bool.false_eq_true, if_false, if_true, Bool.not_false, Bool.not_true])))
omit [Shift] in
theorem tm_cap (ts : Array TypeId) (t : TypeId) (a : Array Value) : Tm P (Builtin.cap_ ts t a) := by
  unfold Builtin.cap_
  (repeat' (first
    | with_reducible exact tm_pure _ | with_reducible exact tm_stuck _ | with_reducible exact tm_unsupported _ | with_reducible exact tm_goPanic _ | with_reducible exact tm_program | with_reducible exact tm_load _ _ | with_reducible exact tm_store _ _ _ | with_reducible exact tm_newObj _ | with_reducible exact tm_shape _ | with_reducible exact tm_frozen _ | with_reducible exact tm_getObj _ | with_reducible exact tm_choose _ | with_reducible exact tm_mark _ | with_reducible exact tm_typeInfo _ | with_reducible exact tm_underlying _ | with_reducible exact tm_sizeOf _ | with_reducible exact tm_zeroValue _ | with_reducible exact tm_isAgg _ | with_reducible exact tm_newRow _ _ | with_reducible exact tm_newVar _ _ | with_reducible exact tm_elemOf _ | with_reducible exact tm_panicString _ | with_reducible exact tm_runtimePanic _ | with_reducible refine tm_map _ ?_ | with_reducible exact tm_boundsPanic _ _ _ _ | with_reducible exact tm_asIntOf _ | with_reducible exact tm_asInt _ | with_reducible exact tm_asBool _ | with_reducible exact tm_asAgg _ | with_reducible exact tm_asAddr _ | with_reducible exact tm_sureAddr _ | with_reducible exact tm_loadCells _ _ | with_reducible exact tm_storeCells _ _ _ | with_reducible exact tm_loadVar _ _ | with_reducible exact tm_storeVar _ _ _ | with_reducible exact tm_part _ _ _ | with_reducible exact tm_askRoom _ | with_reducible exact tm_viewAt _ | with_reducible exact tm_numberAt _ | with_reducible exact tm_behindNumber _ | with_reducible exact tm_asNumber _ _ | with_reducible exact tm_noView _ | with_reducible exact tm_stringish _ | with_reducible exact tm_mayBeOne _ _ | with_reducible exact tm_sameAddr _ _ | with_reducible exact tm_samePointer _ _ | with_reducible exact tm_byteOf _ | with_reducible exact tm_partAt _ _ _ | with_reducible exact tm_fieldPlace _ _ | with_reducible exact tm_loadAt _ _ | with_reducible exact tm_storeAt _ _ _ | with_reducible exact tm_fieldAt _ _ _ | with_reducible exact tm_indexAt _ _ _ | with_reducible exact tm_sliceBound _ _ _ | with_reducible exact tm_sliceBounds _ _ _ _ _ _ | with_reducible exact tm_slice _ _ _ _ _ | with_reducible exact tm_sliceAt _ _ _ _ _ | with_reducible exact tm_makeSlice _ _ _ | with_reducible exact tm_alloc _ _ _ | with_reducible exact tm_box _ _ | with_reducible refine tm_mapMA (fun _ => ?_) _ | with_reducible exact tm_build _ _ | with_reducible exact tm_buildSlice _ _ _ | with_reducible exact tm_makeInterface _ _ | with_reducible exact tm_makeFunc _ _ _ | with_reducible exact tm_extract _ _ | with_reducible exact tm_intArith _ _ _ _ | with_reducible exact tm_intCmp _ _ _ | with_reducible exact tm_intDiv _ _ _ _ | with_reducible exact tm_intBits _ _ _ _ | with_reducible exact tm_shift _ _ _ _ _ | with_reducible exact tm_stringOp _ _ _ | with_reducible exact tm_lenOf _ | with_reducible exact tm_firstCells _ _ _ | with_reducible exact tm_holdsCells _ _ | with_reducible exact tm_mayShare _ _ _ _ _ | with_reducible exact tm_copy _ _ _ | with_reducible exact tm_len _ _ _
    | with_reducible refine tm_bind ?_ fun _ => ?_
    | split
    | dsimp only
    | (rename_i b; cases b <;> simp only [Bool.false_eq_true, if_false, if_true, Bool.not_false, Bool.not_true])))
omit [Shift] in
theorem tm_min2 (a b : Value) : Tm P (Builtin.min2 a b) := by
  unfold Builtin.min2
  (repeat' (first
    | with_reducible exact tm_pure _ | with_reducible exact tm_stuck _ | with_reducible exact tm_unsupported _ | with_reducible exact tm_goPanic _ | with_reducible exact tm_program | with_reducible exact tm_load _ _ | with_reducible exact tm_store _ _ _ | with_reducible exact tm_newObj _ | with_reducible exact tm_shape _ | with_reducible exact tm_frozen _ | with_reducible exact tm_getObj _ | with_reducible exact tm_choose _ | with_reducible exact tm_mark _ | with_reducible exact tm_typeInfo _ | with_reducible exact tm_underlying _ | with_reducible exact tm_sizeOf _ | with_reducible exact tm_zeroValue _ | with_reducible exact tm_isAgg _ | with_reducible exact tm_newRow _ _ | with_reducible exact tm_newVar _ _ | with_reducible exact tm_elemOf _ | with_reducible exact tm_panicString _ | with_reducible exact tm_runtimePanic _ | with_reducible refine tm_map _ ?_ | with_reducible exact tm_boundsPanic _ _ _ _ | with_reducible exact tm_asIntOf _ | with_reducible exact tm_asInt _ | with_reducible exact tm_asBool _ | with_reducible exact tm_asAgg _ | with_reducible exact tm_asAddr _ | with_reducible exact tm_sureAddr _ | with_reducible exact tm_loadCells _ _ | with_reducible exact tm_storeCells _ _ _ | with_reducible exact tm_loadVar _ _ | with_reducible exact tm_storeVar _ _ _ | with_reducible exact tm_part _ _ _ | with_reducible exact tm_askRoom _ | with_reducible exact tm_viewAt _ | with_reducible exact tm_numberAt _ | with_reducible exact tm_behindNumber _ | with_reducible exact tm_asNumber _ _ | with_reducible exact tm_noView _ | with_reducible exact tm_stringish _ | with_reducible exact tm_mayBeOne _ _ | with_reducible exact tm_sameAddr _ _ | with_reducible exact tm_samePointer _ _ | with_reducible exact tm_byteOf _ | with_reducible exact tm_partAt _ _ _ | with_reducible exact tm_fieldPlace _ _ | with_reducible exact tm_loadAt _ _ | with_reducible exact tm_storeAt _ _ _ | with_reducible exact tm_fieldAt _ _ _ | with_reducible exact tm_indexAt _ _ _ | with_reducible exact tm_sliceBound _ _ _ | with_reducible exact tm_sliceBounds _ _ _ _ _ _ | with_reducible exact tm_slice _ _ _ _ _ | with_reducible exact tm_sliceAt _ _ _ _ _ | with_reducible exact tm_makeSlice _ _ _ | with_reducible exact tm_alloc _ _ _ | with_reducible exact tm_box _ _ | with_reducible refine tm_mapMA (fun _ => ?_) _ | with_reducible exact tm_build _ _ | with_reducible exact tm_buildSlice _ _ _ | with_reducible exact tm_makeInterface _ _ | with_reducible exact tm_makeFunc _ _ _ | with_reducible exact tm_extract _ _ | with_reducible exact tm_intArith _ _ _ _ | with_reducible exact tm_intCmp _ _ _ | with_reducible exact tm_intDiv _ _ _ _ | with_reducible exact tm_intBits _ _ _ _ | with_reducible exact tm_shift _ _ _ _ _ | with_reducible exact tm_stringOp _ _ _ | with_reducible exact tm_lenOf _ | with_reducible exact tm_firstCells _ _ _ | with_reducible exact tm_holdsCells _ _ | with_reducible exact tm_mayShare _ _ _ _ _ | with_reducible exact tm_copy _ _ _ | with_reducible exact tm_len _ _ _ | with_reducible exact tm_cap _ _ _
    | with_reducible refine tm_bind ?_ fun _ => ?_
    | split
    | dsimp only
    | (rename_i b; cases b <;> simp only [Bool.false_eq_true, if_false, if_true, Bool.not_false, Bool.not_true])))
omit [Shift] in
theorem tm_foldl {α β : Type} {f : β → α → Sem β} (h : ∀ x y, Tm P (f x y)) : ∀ (l : List α) (b : β), Tm P (l.foldlM f b)
  | [], b => by rw [List.foldlM_nil]; exact tm_pure _
  | x :: l, b => by rw [List.foldlM_cons]; exact tm_bind (h b x) fun c => tm_foldl h l c
omit [Shift] in
theorem tm_min (ts : Array TypeId) (t : TypeId) (a : Array Value) : Tm P (Builtin.min_ ts t a) := by
  unfold Builtin.min_
  (repeat' (first
    | with_reducible exact tm_pure _ | with_reducible exact tm_stuck _ | with_reducible exact tm_unsupported _ | with_reducible exact tm_goPanic _ | with_reducible exact tm_program | with_reducible exact tm_load _ _ | with_reducible exact tm_store _ _ _ | with_reducible exact tm_newObj _ | with_reducible exact tm_shape _ | with_reducible exact tm_frozen _ | with_reducible exact tm_getObj _ | with_reducible exact tm_choose _ | with_reducible exact tm_mark _ | with_reducible exact tm_typeInfo _ | with_reducible exact tm_underlying _ | with_reducible exact tm_sizeOf _ | with_reducible exact tm_zeroValue _ | with_reducible exact tm_isAgg _ | with_reducible exact tm_newRow _ _ | with_reducible exact tm_newVar _ _ | with_reducible exact tm_elemOf _ | with_reducible exact tm_panicString _ | with_reducible exact tm_runtimePanic _ | with_reducible refine tm_map _ ?_ | with_reducible exact tm_boundsPanic _ _ _ _ | with_reducible exact tm_asIntOf _ | with_reducible exact tm_asInt _ | with_reducible exact tm_asBool _ | with_reducible exact tm_asAgg _ | with_reducible exact tm_asAddr _ | with_reducible exact tm_sureAddr _ | with_reducible exact tm_loadCells _ _ | with_reducible exact tm_storeCells _ _ _ | with_reducible exact tm_loadVar _ _ | with_reducible exact tm_storeVar _ _ _ | with_reducible exact tm_part _ _ _ | with_reducible exact tm_askRoom _ | with_reducible exact tm_viewAt _ | with_reducible exact tm_numberAt _ | with_reducible exact tm_behindNumber _ | with_reducible exact tm_asNumber _ _ | with_reducible exact tm_noView _ | with_reducible exact tm_stringish _ | with_reducible exact tm_mayBeOne _ _ | with_reducible exact tm_sameAddr _ _ | with_reducible exact tm_samePointer _ _ | with_reducible exact tm_byteOf _ | with_reducible exact tm_partAt _ _ _ | with_reducible exact tm_fieldPlace _ _ | with_reducible exact tm_loadAt _ _ | with_reducible exact tm_storeAt _ _ _ | with_reducible exact tm_fieldAt _ _ _ | with_reducible exact tm_indexAt _ _ _ | with_reducible exact tm_sliceBound _ _ _ | with_reducible exact tm_sliceBounds _ _ _ _ _ _ | with_reducible exact tm_slice _ _ _ _ _ | with_reducible exact tm_sliceAt _ _ _ _ _ | with_reducible exact tm_makeSlice _ _ _ | with_reducible exact tm_alloc _ _ _ | with_reducible exact tm_box _ _ | with_reducible refine tm_mapMA (fun _ => ?_) _ | with_reducible exact tm_build _ _ | with_reducible exact tm_buildSlice _ _ _ | with_reducible exact tm_makeInterface _ _ | with_reducible exact tm_makeFunc _ _ _ | with_reducible exact tm_extract _ _ | with_reducible exact tm_intArith _ _ _ _ | with_reducible exact tm_intCmp _ _ _ | with_reducible exact tm_intDiv _ _ _ _ | with_reducible exact tm_intBits _ _ _ _ | with_reducible exact tm_shift _ _ _ _ _ | with_reducible exact tm_stringOp _ _ _ | with_reducible exact tm_lenOf _ | with_reducible exact tm_firstCells _ _ _ | with_reducible exact tm_holdsCells _ _ | with_reducible exact tm_mayShare _ _ _ _ _ | with_reducible exact tm_copy _ _ _ | with_reducible exact tm_len _ _ _ | with_reducible exact tm_cap _ _ _ | with_reducible exact tm_min2 _ _ | with_reducible refine tm_foldl (fun _ _ => ?_) _ _
    | with_reducible refine tm_bind ?_ fun _ => ?_
    | split
    | dsimp only
    | (rename_i b; cases b <;> simp only [Bool.false_eq_true, if_false, if_true, Bool.not_false, Bool.not_true])))

omit [Shift] in
theorem tm_ite {α : Type} {c : Prop} [Decidable c] {a b : Sem α} (h1 : c → Tm P a) (h2 : ¬ c → Tm P b) : Tm P (if c then a else b) := by
  split
  · exact h1 ‹_›
  · exact h2 ‹_›
omit [Shift] in
theorem tm_nb {α β : Type} {s : Sem α} {f : α → Sem β} (h : Tm P s) (hn : Never P s) : Tm P (s >>= f) := tm_bind' h fun a ⟨w, w1, e⟩ => absurd e (hn w a w1)
omit [Shift] in
theorem tm_append_zeros {ts : Array TypeId} {xt : TypeId} {kk : IntKind} (hx1 : ts[1]? = some xt) (hk : P.underlying xt = some (.int kk)) (ty : TypeId) (a : Array Value) : Tm P (Builtin.append_ ts ty a) := by
  unfold Builtin.append_
  rw [hx1]
  cases ht : ts[0]? with
  | none => exact tm_stuck _
  | some t =>
    cases ha : a[0]? with
    | none => exact tm_stuck _
    | some v =>
      cases hb : a[1]? with
      | none => exact tm_stuck _
      | some u =>
        refine tm_bind (tm_underlying _) fun d => ?_
        cases d <;> (try dsimp only) <;> first | exact tm_stuck _ | skip
        cases v <;> (try dsimp only) <;> first | exact tm_stuck _ | skip
        rename_i elem base sLen sCap
        have happ : ∀ (n size : Nat) (x : Value), Tm P (if (!true) = true then Builtin.firstCells size n x else if n * size = 0 then (Pure.pure #[] : Sem (Array Value)) else (do let z ← zeroValue elem; Pure.pure (Builtin.zeroCells z.cells n))) := fun n size x =>
          tm_ite (fun k => absurd k (by decide)) fun _ => tm_ite (fun _ => tm_pure _) fun _ => tm_bind (tm_zeroValue _) fun _ => tm_pure _
        refine tm_bind (tm_sizeOf _) fun size => ?_
        refine tm_bind' (tm_underlying _) fun d2 hd2 => ?_
        obtain rfl : d2 = .int kk := by
          obtain ⟨w, w1, hd2⟩ := hd2
          obtain ⟨rfl, _⟩ := hf_underlying (P := P) xt w d2 w1 hd2
          exact int_of hk ⟨_, hd2⟩
        refine tm_bind' (tm_pure _) fun b hb => ?_
        obtain rfl : b = true := by
          obtain ⟨w, w1, hb⟩ := hb
          simp only [Sem.run_pure, Result.ok.injEq] at hb
          rw [← hb.1]
        refine tm_ite (fun _ => ?_) fun k => absurd rfl k
        refine tm_bind (tm_asInt _) fun i => ?_
        refine tm_ite (fun _ => tm_nb (tm_runtimePanic _) (nv_runtimePanic _)) fun _ => ?_
        refine tm_bind (tm_typeInfo _) fun i1 => ?_
        refine tm_ite (fun _ => tm_bind (tm_choose _) fun _ => tm_nb (tm_runtimePanic _) (nv_runtimePanic _)) fun _ => ?_
        refine tm_bind (tm_pure _) fun n => ?_
        refine tm_ite (fun _ => ?_) fun _ => ?_
        · refine tm_bind (happ _ _ _) fun c => ?_
          cases base with
          | none => exact tm_bind (tm_pure _) fun _ => tm_pure _
          | some x => exact tm_bind (tm_storeCells _ _ _) fun _ => tm_pure _
        · refine tm_bind (tm_typeInfo _) fun i1 => ?_
          refine tm_ite (fun _ => tm_nb (tm_runtimePanic _) (nv_runtimePanic _)) fun _ => ?_
          refine tm_bind (tm_typeInfo _) fun i2 => ?_
          refine tm_ite (fun _ => tm_nb (tm_ite (fun _ => tm_runtimePanic _) fun k => absurd rfl k) (nv_true (nv_runtimePanic _))) fun _ => ?_
          refine tm_bind (tm_choose _) fun k => ?_
          refine tm_bind (tm_typeInfo _) fun i3 => ?_
          refine tm_bind (tm_askRoom _) fun _ => ?_
          refine tm_bind (tm_firstCells _ _ _) fun c => ?_
          refine tm_bind (happ _ _ _) fun d => ?_
          refine tm_bind (tm_zeroValue _) fun z => ?_
          exact tm_bind (tm_newRow _ _) fun _ => tm_pure _
end
end Go.Proofs.Ytcobehkadhcjiaa
