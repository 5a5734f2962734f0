/-
  From runs on every tape, in the world and in the world with emptied blocks, to an inductive walk.
-/
import Derived.Test.YtgmjdkhegbdbjaaBRE
namespace Go.Br
open Go
set_option linter.unusedVariables false
set_option linter.unusedSimpArgs false
set_option maxRecDepth 4000
section
variable {α β : Type} {P : Program}
theorem fair_binOp (o : BinOp) (t : TypeId) (x y : Value) (h : o = .eql ∨ o = .neq → flatB P Op.maxDepth t = true) : Fair P (binOp o t x y) := by
  unfold binOp
  split
  all_goals first
    | exact fair_bind (fair_equalIn _ _ _ _ (h (.inl rfl))) fun _ => fair_ret _
    | exact fair_bind (fair_equalIn _ _ _ _ (h (.inr rfl))) fun _ => fair_ret _
    | skip
  all_goals (repeat' first | with_reducible exact fair_ret _ | with_reducible exact fair_pure _ | with_reducible exact fair_stuck _ | ((with_reducible refine fair_unsupported _ ?_); exact fun _ => trivial) | with_reducible exact fair_goPanic _ | with_reducible exact fair_program' | with_reducible exact fair_choose' _ | with_reducible exact fair_load' _ _ | with_reducible exact fair_store' _ _ _ | with_reducible exact fair_newObj _ | with_reducible exact fair_frozen' _ | with_reducible exact fair_getObj' _ | with_reducible exact fair_setObj' _ _ | with_reducible exact fair_askRoom _ | with_reducible exact fair_typeInfo _ | with_reducible exact fair_underlying _ | with_reducible exact fair_zeroValue _ | with_reducible exact fair_sizeOf _ | with_reducible exact fair_isAgg _ | with_reducible exact fair_loadVar _ _ | with_reducible exact fair_storeVar _ _ _ | with_reducible exact fair_newRow _ _ | with_reducible exact fair_elemOf _ | with_reducible exact fair_part _ _ _ | with_reducible exact fair_rt _ | with_reducible exact fair_bounds _ _ _ _ | with_reducible exact fair_asIntOf _ | with_reducible exact fair_asInt _ | with_reducible exact fair_asBool _ | with_reducible exact fair_asString _ | with_reducible exact fair_asAgg _ | with_reducible exact fair_asAddr _ | with_reducible exact fair_sureAddr _ | with_reducible exact fair_alloc _ _ _ | with_reducible exact fair_box _ _ | with_reducible exact fair_buildSlice _ _ _ | with_reducible exact fair_index _ _ _ | with_reducible exact fair_field _ _ _ | with_reducible exact fair_extract _ _ | with_reducible exact fair_makeSlice _ _ _ | with_reducible exact fair_sliceBound _ _ _ | with_reducible exact fair_sliceBounds _ _ _ _ _ _ | with_reducible exact fair_slice _ _ _ _ _ | with_reducible exact fair_sliceAt _ _ _ _ _ | with_reducible exact fair_loadAt _ _ | with_reducible exact fair_storeAt _ _ _ | with_reducible exact fair_indexAt _ _ _ | with_reducible exact fair_makeFunc _ _ _ | with_reducible exact fair_makeInterface _ _ | with_reducible exact fair_loadCells _ _ | with_reducible exact fair_storeCells _ _ _ | with_reducible exact fair_newVar _ _ | with_reducible exact fair_viewAt _ | with_reducible exact fair_numberAt _ | with_reducible exact fair_noView _ | with_reducible exact fair_behindNumber _ | with_reducible exact fair_asNumber _ _ | with_reducible exact fair_byteOf _ | with_reducible exact fair_partAt _ _ _ | with_reducible exact fair_fieldPlace _ _ | with_reducible exact fair_fieldAt _ _ _ | with_reducible exact fair_unsafeAdd _ _ _ | with_reducible exact fair_intArith _ _ _ _ | with_reducible exact fair_intBits _ _ _ _ | with_reducible exact fair_intCmp _ _ _ | with_reducible exact fair_intDiv _ _ _ _ | with_reducible exact fair_shift _ _ _ _ _ | with_reducible exact fair_stringOp _ _ _ | with_reducible exact fair_floatArith _ _ _ _ | with_reducible exact fair_floatCmp _ _ _ _ | with_reducible exact fair_f2f _ _ _ | with_reducible exact fair_carith _ _ _ _ | with_reducible exact fair_cadd _ _ | with_reducible exact fair_csub _ _ | with_reducible exact fair_cmul _ _ | with_reducible exact fair_cquo _ _ | with_reducible exact fair_ccmp _ _ _ _ | with_reducible exact fair_cconv _ _ _ | with_reducible exact fair_cproduct _ _ _ _ | with_reducible exact fair_ccorrected _ _ _ _ _ | with_reducible exact fair_cquotient _ _ _ _ | with_reducible exact fair_complexOp _ _ _ _ _ _ | with_reducible exact fair_movedNumber _ _ _ | with_reducible exact fair_movedPointer _ _ _ | with_reducible exact fair_twoPlaces _ _ | with_reducible exact fair_addrSub _ _ _ | with_reducible exact fair_addrCmp _ _ _ | with_reducible exact fair_unary _ _ | with_reducible exact fair_len _ _ _ | with_reducible exact fair_clear _ _ _ | with_reducible exact fair_lenOf _ | with_reducible exact fair_firstCells _ _ _ | with_reducible exact fair_addrMod _ _ _ | with_reducible exact fair_eqGuardIn _ _ _ _ | with_reducible exact fair_eqGuard _ _ _ _ _ _ | with_reducible apply fair_map | (with_reducible refine fair_bind ?_ fun _ => ?_) | split | dsimp only)
theorem fair_convert (s d : TypeId) (x : Value) (hs : ∃ k, P.underlying s = some (.int k)) (hd : ∃ k, P.underlying d = some (.int k)) : Fair P (convert s d x) := by
  obtain ⟨k1, hs⟩ := hs
  obtain ⟨k2, hd⟩ := hd
  unfold convert
  refine fair_underIs fun u1 h1 => fair_underIs fun u2 h2 => ?_
  rw [hs] at h1; rw [hd] at h2
  cases h1; cases h2
  cases x
  case int => exact fair_ret _
  case float => exact (by unfold Conv.floatToInt; (repeat' first | with_reducible exact fair_ret _ | with_reducible exact fair_pure _ | with_reducible exact fair_stuck _ | ((with_reducible refine fair_unsupported _ ?_); exact fun _ => trivial) | with_reducible exact fair_goPanic _ | with_reducible exact fair_program' | with_reducible exact fair_choose' _ | with_reducible exact fair_load' _ _ | with_reducible exact fair_store' _ _ _ | with_reducible exact fair_newObj _ | with_reducible exact fair_frozen' _ | with_reducible exact fair_getObj' _ | with_reducible exact fair_setObj' _ _ | with_reducible exact fair_askRoom _ | with_reducible exact fair_typeInfo _ | with_reducible exact fair_underlying _ | with_reducible exact fair_zeroValue _ | with_reducible exact fair_sizeOf _ | with_reducible exact fair_isAgg _ | with_reducible exact fair_loadVar _ _ | with_reducible exact fair_storeVar _ _ _ | with_reducible exact fair_newRow _ _ | with_reducible exact fair_elemOf _ | with_reducible exact fair_part _ _ _ | with_reducible exact fair_rt _ | with_reducible exact fair_bounds _ _ _ _ | with_reducible exact fair_asIntOf _ | with_reducible exact fair_asInt _ | with_reducible exact fair_asBool _ | with_reducible exact fair_asString _ | with_reducible exact fair_asAgg _ | with_reducible exact fair_asAddr _ | with_reducible exact fair_sureAddr _ | with_reducible exact fair_alloc _ _ _ | with_reducible exact fair_box _ _ | with_reducible exact fair_buildSlice _ _ _ | with_reducible exact fair_index _ _ _ | with_reducible exact fair_field _ _ _ | with_reducible exact fair_extract _ _ | with_reducible exact fair_makeSlice _ _ _ | with_reducible exact fair_sliceBound _ _ _ | with_reducible exact fair_sliceBounds _ _ _ _ _ _ | with_reducible exact fair_slice _ _ _ _ _ | with_reducible exact fair_sliceAt _ _ _ _ _ | with_reducible exact fair_loadAt _ _ | with_reducible exact fair_storeAt _ _ _ | with_reducible exact fair_indexAt _ _ _ | with_reducible exact fair_makeFunc _ _ _ | with_reducible exact fair_makeInterface _ _ | with_reducible exact fair_loadCells _ _ | with_reducible exact fair_storeCells _ _ _ | with_reducible exact fair_newVar _ _ | with_reducible exact fair_viewAt _ | with_reducible exact fair_numberAt _ | with_reducible exact fair_noView _ | with_reducible exact fair_behindNumber _ | with_reducible exact fair_asNumber _ _ | with_reducible exact fair_byteOf _ | with_reducible exact fair_partAt _ _ _ | with_reducible exact fair_fieldPlace _ _ | with_reducible exact fair_fieldAt _ _ _ | with_reducible exact fair_unsafeAdd _ _ _ | with_reducible exact fair_intArith _ _ _ _ | with_reducible exact fair_intBits _ _ _ _ | with_reducible exact fair_intCmp _ _ _ | with_reducible exact fair_intDiv _ _ _ _ | with_reducible exact fair_shift _ _ _ _ _ | with_reducible exact fair_stringOp _ _ _ | with_reducible exact fair_floatArith _ _ _ _ | with_reducible exact fair_floatCmp _ _ _ _ | with_reducible exact fair_f2f _ _ _ | with_reducible exact fair_carith _ _ _ _ | with_reducible exact fair_cadd _ _ | with_reducible exact fair_csub _ _ | with_reducible exact fair_cmul _ _ | with_reducible exact fair_cquo _ _ | with_reducible exact fair_ccmp _ _ _ _ | with_reducible exact fair_cconv _ _ _ | with_reducible exact fair_cproduct _ _ _ _ | with_reducible exact fair_ccorrected _ _ _ _ _ | with_reducible exact fair_cquotient _ _ _ _ | with_reducible exact fair_complexOp _ _ _ _ _ _ | with_reducible exact fair_movedNumber _ _ _ | with_reducible exact fair_movedPointer _ _ _ | with_reducible exact fair_twoPlaces _ _ | with_reducible exact fair_addrSub _ _ _ | with_reducible exact fair_addrCmp _ _ _ | with_reducible exact fair_unary _ _ | with_reducible exact fair_len _ _ _ | with_reducible exact fair_clear _ _ _ | with_reducible exact fair_lenOf _ | with_reducible exact fair_firstCells _ _ _ | with_reducible exact fair_addrMod _ _ _ | with_reducible exact fair_eqGuardIn _ _ _ _ | with_reducible exact fair_eqGuard _ _ _ _ _ _ | with_reducible apply fair_map | (with_reducible refine fair_bind ?_ fun _ => ?_) | split | dsimp only) : Fair P (Conv.floatToInt _ _ _))
  case pointer a => cases a <;> exact fair_halt fun _ => trivial
  all_goals exact fair_halt fun _ => trivial
theorem calm_mayShare (a b c : Nat) (x : Option Addr) (v : Value) : Calm P (Builtin.mayShare a b c x v) := by
  have hc : ∀ a n, Calm P (Builtin.holdsCells a n) := fun a n => calm_bind (calm_shape fun s => calm_pure _) fun s => by split <;> exact calm_pure _
  have hf : ∀ a, Calm P (frozen a) := fun a => calm_frozen fun _ => calm_pure _
  unfold Builtin.mayShare
  repeat' first
    | exact calm_pure _
    | exact hc _ _
    | exact hf _
    | refine calm_bind ?_ fun _ => ?_
    | split
    | dsimp only
theorem fair_noRoom (a b c : Nat) (x : Option Addr) (v : Value) (s : String) : Fair P (do
    let b ← Builtin.mayShare a b c x v
    if (!b) = true then do
      mark Mark.noRoom
      unsupported (.resourceLimit s)
    else unsupported (.resourceLimit s) : Sem α) := fair_never (never_bind fun b => by
  split
  · exact never_bind fun _ => never_halt _
  · exact never_halt _) (calm_bind (calm_mayShare _ _ _ _ _) fun b => by
  split
  · exact calm_bind (calm_mark (calm_pure _)) fun _ => calm_halt fun _ => trivial
  · exact calm_halt fun _ => trivial)
set_option maxHeartbeats 4000000 in
theorem fair_append (a : Array TypeId) (t : TypeId) (args : Array Value) : Fair P (Builtin.append_ a t args) := by
  unfold Builtin.append_
  split
  · refine fair_bind (fair_underlying _) fun u => ?_
    split
    · split
      · refine fair_bind (fair_sizeOf _) fun size => ?_
        split
        all_goals
          extract_lets jpa jp1
          have h1 : ∀ z, Fair P (jp1 z) := by
            intro zeros
            dsimp -zeta only [jp1]
            extract_lets jp2
            have h2 : ∀ n, Fair P (jp2 n) := by
              intro n
              dsimp only [jp2, jpa]
              (repeat' first | with_reducible exact fair_ret _ | with_reducible exact fair_pure _ | with_reducible exact fair_stuck _ | ((with_reducible refine fair_unsupported _ ?_); exact fun _ => trivial) | with_reducible exact fair_goPanic _ | with_reducible exact fair_program' | with_reducible exact fair_choose' _ | with_reducible exact fair_load' _ _ | with_reducible exact fair_store' _ _ _ | with_reducible exact fair_newObj _ | with_reducible exact fair_frozen' _ | with_reducible exact fair_getObj' _ | with_reducible exact fair_setObj' _ _ | with_reducible exact fair_askRoom _ | with_reducible exact fair_typeInfo _ | with_reducible exact fair_underlying _ | with_reducible exact fair_zeroValue _ | with_reducible exact fair_sizeOf _ | with_reducible exact fair_isAgg _ | with_reducible exact fair_loadVar _ _ | with_reducible exact fair_storeVar _ _ _ | with_reducible exact fair_newRow _ _ | with_reducible exact fair_elemOf _ | with_reducible exact fair_part _ _ _ | with_reducible exact fair_rt _ | with_reducible exact fair_bounds _ _ _ _ | with_reducible exact fair_asIntOf _ | with_reducible exact fair_asInt _ | with_reducible exact fair_asBool _ | with_reducible exact fair_asString _ | with_reducible exact fair_asAgg _ | with_reducible exact fair_asAddr _ | with_reducible exact fair_sureAddr _ | with_reducible exact fair_alloc _ _ _ | with_reducible exact fair_box _ _ | with_reducible exact fair_buildSlice _ _ _ | with_reducible exact fair_index _ _ _ | with_reducible exact fair_field _ _ _ | with_reducible exact fair_extract _ _ | with_reducible exact fair_makeSlice _ _ _ | with_reducible exact fair_sliceBound _ _ _ | with_reducible exact fair_sliceBounds _ _ _ _ _ _ | with_reducible exact fair_slice _ _ _ _ _ | with_reducible exact fair_sliceAt _ _ _ _ _ | with_reducible exact fair_loadAt _ _ | with_reducible exact fair_storeAt _ _ _ | with_reducible exact fair_indexAt _ _ _ | with_reducible exact fair_makeFunc _ _ _ | with_reducible exact fair_makeInterface _ _ | with_reducible exact fair_loadCells _ _ | with_reducible exact fair_storeCells _ _ _ | with_reducible exact fair_newVar _ _ | with_reducible exact fair_viewAt _ | with_reducible exact fair_numberAt _ | with_reducible exact fair_noView _ | with_reducible exact fair_behindNumber _ | with_reducible exact fair_asNumber _ _ | with_reducible exact fair_byteOf _ | with_reducible exact fair_partAt _ _ _ | with_reducible exact fair_fieldPlace _ _ | with_reducible exact fair_fieldAt _ _ _ | with_reducible exact fair_unsafeAdd _ _ _ | with_reducible exact fair_intArith _ _ _ _ | with_reducible exact fair_intBits _ _ _ _ | with_reducible exact fair_intCmp _ _ _ | with_reducible exact fair_intDiv _ _ _ _ | with_reducible exact fair_shift _ _ _ _ _ | with_reducible exact fair_stringOp _ _ _ | with_reducible exact fair_floatArith _ _ _ _ | with_reducible exact fair_floatCmp _ _ _ _ | with_reducible exact fair_f2f _ _ _ | with_reducible exact fair_carith _ _ _ _ | with_reducible exact fair_cadd _ _ | with_reducible exact fair_csub _ _ | with_reducible exact fair_cmul _ _ | with_reducible exact fair_cquo _ _ | with_reducible exact fair_ccmp _ _ _ _ | with_reducible exact fair_cconv _ _ _ | with_reducible exact fair_cproduct _ _ _ _ | with_reducible exact fair_ccorrected _ _ _ _ _ | with_reducible exact fair_cquotient _ _ _ _ | with_reducible exact fair_complexOp _ _ _ _ _ _ | with_reducible exact fair_movedNumber _ _ _ | with_reducible exact fair_movedPointer _ _ _ | with_reducible exact fair_twoPlaces _ _ | with_reducible exact fair_addrSub _ _ _ | with_reducible exact fair_addrCmp _ _ _ | with_reducible exact fair_unary _ _ | with_reducible exact fair_len _ _ _ | with_reducible exact fair_clear _ _ _ | with_reducible exact fair_lenOf _ | with_reducible exact fair_firstCells _ _ _ | with_reducible exact fair_addrMod _ _ _ | with_reducible exact fair_eqGuardIn _ _ _ _ | with_reducible exact fair_eqGuard _ _ _ _ _ _ | with_reducible exact fair_noRoom _ _ _ _ _ _ | with_reducible apply fair_map | (with_reducible refine fair_bind ?_ fun _ => ?_) | split | dsimp only)
            clear_value jp2
            (repeat' first | with_reducible exact fair_ret _ | with_reducible exact fair_pure _ | with_reducible exact fair_stuck _ | ((with_reducible refine fair_unsupported _ ?_); exact fun _ => trivial) | with_reducible exact fair_goPanic _ | with_reducible exact fair_program' | with_reducible exact fair_choose' _ | with_reducible exact fair_load' _ _ | with_reducible exact fair_store' _ _ _ | with_reducible exact fair_newObj _ | with_reducible exact fair_frozen' _ | with_reducible exact fair_getObj' _ | with_reducible exact fair_setObj' _ _ | with_reducible exact fair_askRoom _ | with_reducible exact fair_typeInfo _ | with_reducible exact fair_underlying _ | with_reducible exact fair_zeroValue _ | with_reducible exact fair_sizeOf _ | with_reducible exact fair_isAgg _ | with_reducible exact fair_loadVar _ _ | with_reducible exact fair_storeVar _ _ _ | with_reducible exact fair_newRow _ _ | with_reducible exact fair_elemOf _ | with_reducible exact fair_part _ _ _ | with_reducible exact fair_rt _ | with_reducible exact fair_bounds _ _ _ _ | with_reducible exact fair_asIntOf _ | with_reducible exact fair_asInt _ | with_reducible exact fair_asBool _ | with_reducible exact fair_asString _ | with_reducible exact fair_asAgg _ | with_reducible exact fair_asAddr _ | with_reducible exact fair_sureAddr _ | with_reducible exact fair_alloc _ _ _ | with_reducible exact fair_box _ _ | with_reducible exact fair_buildSlice _ _ _ | with_reducible exact fair_index _ _ _ | with_reducible exact fair_field _ _ _ | with_reducible exact fair_extract _ _ | with_reducible exact fair_makeSlice _ _ _ | with_reducible exact fair_sliceBound _ _ _ | with_reducible exact fair_sliceBounds _ _ _ _ _ _ | with_reducible exact fair_slice _ _ _ _ _ | with_reducible exact fair_sliceAt _ _ _ _ _ | with_reducible exact fair_loadAt _ _ | with_reducible exact fair_storeAt _ _ _ | with_reducible exact fair_indexAt _ _ _ | with_reducible exact fair_makeFunc _ _ _ | with_reducible exact fair_makeInterface _ _ | with_reducible exact fair_loadCells _ _ | with_reducible exact fair_storeCells _ _ _ | with_reducible exact fair_newVar _ _ | with_reducible exact fair_viewAt _ | with_reducible exact fair_numberAt _ | with_reducible exact fair_noView _ | with_reducible exact fair_behindNumber _ | with_reducible exact fair_asNumber _ _ | with_reducible exact fair_byteOf _ | with_reducible exact fair_partAt _ _ _ | with_reducible exact fair_fieldPlace _ _ | with_reducible exact fair_fieldAt _ _ _ | with_reducible exact fair_unsafeAdd _ _ _ | with_reducible exact fair_intArith _ _ _ _ | with_reducible exact fair_intBits _ _ _ _ | with_reducible exact fair_intCmp _ _ _ | with_reducible exact fair_intDiv _ _ _ _ | with_reducible exact fair_shift _ _ _ _ _ | with_reducible exact fair_stringOp _ _ _ | with_reducible exact fair_floatArith _ _ _ _ | with_reducible exact fair_floatCmp _ _ _ _ | with_reducible exact fair_f2f _ _ _ | with_reducible exact fair_carith _ _ _ _ | with_reducible exact fair_cadd _ _ | with_reducible exact fair_csub _ _ | with_reducible exact fair_cmul _ _ | with_reducible exact fair_cquo _ _ | with_reducible exact fair_ccmp _ _ _ _ | with_reducible exact fair_cconv _ _ _ | with_reducible exact fair_cproduct _ _ _ _ | with_reducible exact fair_ccorrected _ _ _ _ _ | with_reducible exact fair_cquotient _ _ _ _ | with_reducible exact fair_complexOp _ _ _ _ _ _ | with_reducible exact fair_movedNumber _ _ _ | with_reducible exact fair_movedPointer _ _ _ | with_reducible exact fair_twoPlaces _ _ | with_reducible exact fair_addrSub _ _ _ | with_reducible exact fair_addrCmp _ _ _ | with_reducible exact fair_unary _ _ | with_reducible exact fair_len _ _ _ | with_reducible exact fair_clear _ _ _ | with_reducible exact fair_lenOf _ | with_reducible exact fair_firstCells _ _ _ | with_reducible exact fair_addrMod _ _ _ | with_reducible exact fair_eqGuardIn _ _ _ _ | with_reducible exact fair_eqGuard _ _ _ _ _ _ | with_reducible exact h2 _ | with_reducible apply fair_map | (with_reducible refine fair_bind ?_ fun _ => ?_) | split | dsimp only)
          clear_value jp1
          (repeat' first | with_reducible exact fair_ret _ | with_reducible exact fair_pure _ | with_reducible exact fair_stuck _ | ((with_reducible refine fair_unsupported _ ?_); exact fun _ => trivial) | with_reducible exact fair_goPanic _ | with_reducible exact fair_program' | with_reducible exact fair_choose' _ | with_reducible exact fair_load' _ _ | with_reducible exact fair_store' _ _ _ | with_reducible exact fair_newObj _ | with_reducible exact fair_frozen' _ | with_reducible exact fair_getObj' _ | with_reducible exact fair_setObj' _ _ | with_reducible exact fair_askRoom _ | with_reducible exact fair_typeInfo _ | with_reducible exact fair_underlying _ | with_reducible exact fair_zeroValue _ | with_reducible exact fair_sizeOf _ | with_reducible exact fair_isAgg _ | with_reducible exact fair_loadVar _ _ | with_reducible exact fair_storeVar _ _ _ | with_reducible exact fair_newRow _ _ | with_reducible exact fair_elemOf _ | with_reducible exact fair_part _ _ _ | with_reducible exact fair_rt _ | with_reducible exact fair_bounds _ _ _ _ | with_reducible exact fair_asIntOf _ | with_reducible exact fair_asInt _ | with_reducible exact fair_asBool _ | with_reducible exact fair_asString _ | with_reducible exact fair_asAgg _ | with_reducible exact fair_asAddr _ | with_reducible exact fair_sureAddr _ | with_reducible exact fair_alloc _ _ _ | with_reducible exact fair_box _ _ | with_reducible exact fair_buildSlice _ _ _ | with_reducible exact fair_index _ _ _ | with_reducible exact fair_field _ _ _ | with_reducible exact fair_extract _ _ | with_reducible exact fair_makeSlice _ _ _ | with_reducible exact fair_sliceBound _ _ _ | with_reducible exact fair_sliceBounds _ _ _ _ _ _ | with_reducible exact fair_slice _ _ _ _ _ | with_reducible exact fair_sliceAt _ _ _ _ _ | with_reducible exact fair_loadAt _ _ | with_reducible exact fair_storeAt _ _ _ | with_reducible exact fair_indexAt _ _ _ | with_reducible exact fair_makeFunc _ _ _ | with_reducible exact fair_makeInterface _ _ | with_reducible exact fair_loadCells _ _ | with_reducible exact fair_storeCells _ _ _ | with_reducible exact fair_newVar _ _ | with_reducible exact fair_viewAt _ | with_reducible exact fair_numberAt _ | with_reducible exact fair_noView _ | with_reducible exact fair_behindNumber _ | with_reducible exact fair_asNumber _ _ | with_reducible exact fair_byteOf _ | with_reducible exact fair_partAt _ _ _ | with_reducible exact fair_fieldPlace _ _ | with_reducible exact fair_fieldAt _ _ _ | with_reducible exact fair_unsafeAdd _ _ _ | with_reducible exact fair_intArith _ _ _ _ | with_reducible exact fair_intBits _ _ _ _ | with_reducible exact fair_intCmp _ _ _ | with_reducible exact fair_intDiv _ _ _ _ | with_reducible exact fair_shift _ _ _ _ _ | with_reducible exact fair_stringOp _ _ _ | with_reducible exact fair_floatArith _ _ _ _ | with_reducible exact fair_floatCmp _ _ _ _ | with_reducible exact fair_f2f _ _ _ | with_reducible exact fair_carith _ _ _ _ | with_reducible exact fair_cadd _ _ | with_reducible exact fair_csub _ _ | with_reducible exact fair_cmul _ _ | with_reducible exact fair_cquo _ _ | with_reducible exact fair_ccmp _ _ _ _ | with_reducible exact fair_cconv _ _ _ | with_reducible exact fair_cproduct _ _ _ _ | with_reducible exact fair_ccorrected _ _ _ _ _ | with_reducible exact fair_cquotient _ _ _ _ | with_reducible exact fair_complexOp _ _ _ _ _ _ | with_reducible exact fair_movedNumber _ _ _ | with_reducible exact fair_movedPointer _ _ _ | with_reducible exact fair_twoPlaces _ _ | with_reducible exact fair_addrSub _ _ _ | with_reducible exact fair_addrCmp _ _ _ | with_reducible exact fair_unary _ _ | with_reducible exact fair_len _ _ _ | with_reducible exact fair_clear _ _ _ | with_reducible exact fair_lenOf _ | with_reducible exact fair_firstCells _ _ _ | with_reducible exact fair_addrMod _ _ _ | with_reducible exact fair_eqGuardIn _ _ _ _ | with_reducible exact fair_eqGuard _ _ _ _ _ _ | with_reducible exact h1 _ | with_reducible apply fair_map | (with_reducible refine fair_bind ?_ fun _ => ?_) | split | dsimp only)
      · exact fair_stuck _
    · exact fair_stuck _
  · exact fair_stuck _
end
end Go.Br

namespace Go.Br
open Go
set_option linter.unusedVariables false
set_option linter.unusedSimpArgs false
set_option maxRecDepth 4000
section
variable {α β : Type} {P : Program}
theorem fair_followBlind (l : List FieldStep) : ∀ (t : TypeId) (x : Option Value), Fair P (followBlind l t x) := by
  induction l with
  | nil => intro t x; unfold followBlind; (repeat' first | with_reducible exact fair_ret _ | with_reducible exact fair_pure _ | with_reducible exact fair_stuck _ | ((with_reducible refine fair_unsupported _ ?_); exact fun _ => trivial) | with_reducible exact fair_goPanic _ | with_reducible exact fair_program' | with_reducible exact fair_choose' _ | with_reducible exact fair_load' _ _ | with_reducible exact fair_store' _ _ _ | with_reducible exact fair_newObj _ | with_reducible exact fair_frozen' _ | with_reducible exact fair_getObj' _ | with_reducible exact fair_setObj' _ _ | with_reducible exact fair_askRoom _ | with_reducible exact fair_typeInfo _ | with_reducible exact fair_underlying _ | with_reducible exact fair_zeroValue _ | with_reducible exact fair_sizeOf _ | with_reducible exact fair_isAgg _ | with_reducible exact fair_loadVar _ _ | with_reducible exact fair_storeVar _ _ _ | with_reducible exact fair_newRow _ _ | with_reducible exact fair_elemOf _ | with_reducible exact fair_part _ _ _ | with_reducible exact fair_rt _ | with_reducible exact fair_bounds _ _ _ _ | with_reducible exact fair_asIntOf _ | with_reducible exact fair_asInt _ | with_reducible exact fair_asBool _ | with_reducible exact fair_asString _ | with_reducible exact fair_asAgg _ | with_reducible exact fair_asAddr _ | with_reducible exact fair_sureAddr _ | with_reducible exact fair_alloc _ _ _ | with_reducible exact fair_box _ _ | with_reducible exact fair_buildSlice _ _ _ | with_reducible exact fair_index _ _ _ | with_reducible exact fair_field _ _ _ | with_reducible exact fair_extract _ _ | with_reducible exact fair_makeSlice _ _ _ | with_reducible exact fair_sliceBound _ _ _ | with_reducible exact fair_sliceBounds _ _ _ _ _ _ | with_reducible exact fair_slice _ _ _ _ _ | with_reducible exact fair_sliceAt _ _ _ _ _ | with_reducible exact fair_loadAt _ _ | with_reducible exact fair_storeAt _ _ _ | with_reducible exact fair_indexAt _ _ _ | with_reducible exact fair_makeFunc _ _ _ | with_reducible exact fair_makeInterface _ _ | with_reducible exact fair_loadCells _ _ | with_reducible exact fair_storeCells _ _ _ | with_reducible exact fair_newVar _ _ | with_reducible exact fair_viewAt _ | with_reducible exact fair_numberAt _ | with_reducible exact fair_noView _ | with_reducible exact fair_behindNumber _ | with_reducible exact fair_asNumber _ _ | with_reducible exact fair_byteOf _ | with_reducible exact fair_partAt _ _ _ | with_reducible exact fair_fieldPlace _ _ | with_reducible exact fair_fieldAt _ _ _ | with_reducible exact fair_unsafeAdd _ _ _ | with_reducible exact fair_intArith _ _ _ _ | with_reducible exact fair_intBits _ _ _ _ | with_reducible exact fair_intCmp _ _ _ | with_reducible exact fair_intDiv _ _ _ _ | with_reducible exact fair_shift _ _ _ _ _ | with_reducible exact fair_stringOp _ _ _ | with_reducible exact fair_floatArith _ _ _ _ | with_reducible exact fair_floatCmp _ _ _ _ | with_reducible exact fair_f2f _ _ _ | with_reducible exact fair_carith _ _ _ _ | with_reducible exact fair_cadd _ _ | with_reducible exact fair_csub _ _ | with_reducible exact fair_cmul _ _ | with_reducible exact fair_cquo _ _ | with_reducible exact fair_ccmp _ _ _ _ | with_reducible exact fair_cconv _ _ _ | with_reducible exact fair_cproduct _ _ _ _ | with_reducible exact fair_ccorrected _ _ _ _ _ | with_reducible exact fair_cquotient _ _ _ _ | with_reducible exact fair_complexOp _ _ _ _ _ _ | with_reducible exact fair_movedNumber _ _ _ | with_reducible exact fair_movedPointer _ _ _ | with_reducible exact fair_twoPlaces _ _ | with_reducible exact fair_addrSub _ _ _ | with_reducible exact fair_addrCmp _ _ _ | with_reducible exact fair_unary _ _ | with_reducible exact fair_len _ _ _ | with_reducible exact fair_clear _ _ _ | with_reducible exact fair_lenOf _ | with_reducible exact fair_firstCells _ _ _ | with_reducible exact fair_addrMod _ _ _ | with_reducible exact fair_eqGuardIn _ _ _ _ | with_reducible exact fair_eqGuard _ _ _ _ _ _ | with_reducible exact fair_append _ _ _ | with_reducible apply fair_map | (with_reducible refine fair_bind ?_ fun _ => ?_) | split | dsimp only)
  | cons s l ih => intro t x; unfold followBlind; (repeat' first | with_reducible exact fair_ret _ | with_reducible exact fair_pure _ | with_reducible exact fair_stuck _ | ((with_reducible refine fair_unsupported _ ?_); exact fun _ => trivial) | with_reducible exact fair_goPanic _ | with_reducible exact fair_program' | with_reducible exact fair_choose' _ | with_reducible exact fair_load' _ _ | with_reducible exact fair_store' _ _ _ | with_reducible exact fair_newObj _ | with_reducible exact fair_frozen' _ | with_reducible exact fair_getObj' _ | with_reducible exact fair_setObj' _ _ | with_reducible exact fair_askRoom _ | with_reducible exact fair_typeInfo _ | with_reducible exact fair_underlying _ | with_reducible exact fair_zeroValue _ | with_reducible exact fair_sizeOf _ | with_reducible exact fair_isAgg _ | with_reducible exact fair_loadVar _ _ | with_reducible exact fair_storeVar _ _ _ | with_reducible exact fair_newRow _ _ | with_reducible exact fair_elemOf _ | with_reducible exact fair_part _ _ _ | with_reducible exact fair_rt _ | with_reducible exact fair_bounds _ _ _ _ | with_reducible exact fair_asIntOf _ | with_reducible exact fair_asInt _ | with_reducible exact fair_asBool _ | with_reducible exact fair_asString _ | with_reducible exact fair_asAgg _ | with_reducible exact fair_asAddr _ | with_reducible exact fair_sureAddr _ | with_reducible exact fair_alloc _ _ _ | with_reducible exact fair_box _ _ | with_reducible exact fair_buildSlice _ _ _ | with_reducible exact fair_index _ _ _ | with_reducible exact fair_field _ _ _ | with_reducible exact fair_extract _ _ | with_reducible exact fair_makeSlice _ _ _ | with_reducible exact fair_sliceBound _ _ _ | with_reducible exact fair_sliceBounds _ _ _ _ _ _ | with_reducible exact fair_slice _ _ _ _ _ | with_reducible exact fair_sliceAt _ _ _ _ _ | with_reducible exact fair_loadAt _ _ | with_reducible exact fair_storeAt _ _ _ | with_reducible exact fair_indexAt _ _ _ | with_reducible exact fair_makeFunc _ _ _ | with_reducible exact fair_makeInterface _ _ | with_reducible exact fair_loadCells _ _ | with_reducible exact fair_storeCells _ _ _ | with_reducible exact fair_newVar _ _ | with_reducible exact fair_viewAt _ | with_reducible exact fair_numberAt _ | with_reducible exact fair_noView _ | with_reducible exact fair_behindNumber _ | with_reducible exact fair_asNumber _ _ | with_reducible exact fair_byteOf _ | with_reducible exact fair_partAt _ _ _ | with_reducible exact fair_fieldPlace _ _ | with_reducible exact fair_fieldAt _ _ _ | with_reducible exact fair_unsafeAdd _ _ _ | with_reducible exact fair_intArith _ _ _ _ | with_reducible exact fair_intBits _ _ _ _ | with_reducible exact fair_intCmp _ _ _ | with_reducible exact fair_intDiv _ _ _ _ | with_reducible exact fair_shift _ _ _ _ _ | with_reducible exact fair_stringOp _ _ _ | with_reducible exact fair_floatArith _ _ _ _ | with_reducible exact fair_floatCmp _ _ _ _ | with_reducible exact fair_f2f _ _ _ | with_reducible exact fair_carith _ _ _ _ | with_reducible exact fair_cadd _ _ | with_reducible exact fair_csub _ _ | with_reducible exact fair_cmul _ _ | with_reducible exact fair_cquo _ _ | with_reducible exact fair_ccmp _ _ _ _ | with_reducible exact fair_cconv _ _ _ | with_reducible exact fair_cproduct _ _ _ _ | with_reducible exact fair_ccorrected _ _ _ _ _ | with_reducible exact fair_cquotient _ _ _ _ | with_reducible exact fair_complexOp _ _ _ _ _ _ | with_reducible exact fair_movedNumber _ _ _ | with_reducible exact fair_movedPointer _ _ _ | with_reducible exact fair_twoPlaces _ _ | with_reducible exact fair_addrSub _ _ _ | with_reducible exact fair_addrCmp _ _ _ | with_reducible exact fair_unary _ _ | with_reducible exact fair_len _ _ _ | with_reducible exact fair_clear _ _ _ | with_reducible exact fair_lenOf _ | with_reducible exact fair_firstCells _ _ _ | with_reducible exact fair_addrMod _ _ _ | with_reducible exact fair_eqGuardIn _ _ _ _ | with_reducible exact fair_eqGuard _ _ _ _ _ _ | with_reducible exact fair_append _ _ _ | with_reducible exact ih _ _ | with_reducible apply fair_map | (with_reducible refine fair_bind ?_ fun _ => ?_) | split | dsimp only)
theorem fair_nilAhead (n : Nat) : ∀ (t : TypeId) (v : Value) (s : String), Fair P (nilAhead n t v s) := by
  induction n with
  | zero => exact fun _ _ _ => fair_ret _
  | succ n ih => intro t v s; unfold nilAhead; (repeat' first | with_reducible exact fair_ret _ | with_reducible exact fair_pure _ | with_reducible exact fair_stuck _ | ((with_reducible refine fair_unsupported _ ?_); exact fun _ => trivial) | with_reducible exact fair_goPanic _ | with_reducible exact fair_program' | with_reducible exact fair_choose' _ | with_reducible exact fair_load' _ _ | with_reducible exact fair_store' _ _ _ | with_reducible exact fair_newObj _ | with_reducible exact fair_frozen' _ | with_reducible exact fair_getObj' _ | with_reducible exact fair_setObj' _ _ | with_reducible exact fair_askRoom _ | with_reducible exact fair_typeInfo _ | with_reducible exact fair_underlying _ | with_reducible exact fair_zeroValue _ | with_reducible exact fair_sizeOf _ | with_reducible exact fair_isAgg _ | with_reducible exact fair_loadVar _ _ | with_reducible exact fair_storeVar _ _ _ | with_reducible exact fair_newRow _ _ | with_reducible exact fair_elemOf _ | with_reducible exact fair_part _ _ _ | with_reducible exact fair_rt _ | with_reducible exact fair_bounds _ _ _ _ | with_reducible exact fair_asIntOf _ | with_reducible exact fair_asInt _ | with_reducible exact fair_asBool _ | with_reducible exact fair_asString _ | with_reducible exact fair_asAgg _ | with_reducible exact fair_asAddr _ | with_reducible exact fair_sureAddr _ | with_reducible exact fair_alloc _ _ _ | with_reducible exact fair_box _ _ | with_reducible exact fair_buildSlice _ _ _ | with_reducible exact fair_index _ _ _ | with_reducible exact fair_field _ _ _ | with_reducible exact fair_extract _ _ | with_reducible exact fair_makeSlice _ _ _ | with_reducible exact fair_sliceBound _ _ _ | with_reducible exact fair_sliceBounds _ _ _ _ _ _ | with_reducible exact fair_slice _ _ _ _ _ | with_reducible exact fair_sliceAt _ _ _ _ _ | with_reducible exact fair_loadAt _ _ | with_reducible exact fair_storeAt _ _ _ | with_reducible exact fair_indexAt _ _ _ | with_reducible exact fair_makeFunc _ _ _ | with_reducible exact fair_makeInterface _ _ | with_reducible exact fair_loadCells _ _ | with_reducible exact fair_storeCells _ _ _ | with_reducible exact fair_newVar _ _ | with_reducible exact fair_viewAt _ | with_reducible exact fair_numberAt _ | with_reducible exact fair_noView _ | with_reducible exact fair_behindNumber _ | with_reducible exact fair_asNumber _ _ | with_reducible exact fair_byteOf _ | with_reducible exact fair_partAt _ _ _ | with_reducible exact fair_fieldPlace _ _ | with_reducible exact fair_fieldAt _ _ _ | with_reducible exact fair_unsafeAdd _ _ _ | with_reducible exact fair_intArith _ _ _ _ | with_reducible exact fair_intBits _ _ _ _ | with_reducible exact fair_intCmp _ _ _ | with_reducible exact fair_intDiv _ _ _ _ | with_reducible exact fair_shift _ _ _ _ _ | with_reducible exact fair_stringOp _ _ _ | with_reducible exact fair_floatArith _ _ _ _ | with_reducible exact fair_floatCmp _ _ _ _ | with_reducible exact fair_f2f _ _ _ | with_reducible exact fair_carith _ _ _ _ | with_reducible exact fair_cadd _ _ | with_reducible exact fair_csub _ _ | with_reducible exact fair_cmul _ _ | with_reducible exact fair_cquo _ _ | with_reducible exact fair_ccmp _ _ _ _ | with_reducible exact fair_cconv _ _ _ | with_reducible exact fair_cproduct _ _ _ _ | with_reducible exact fair_ccorrected _ _ _ _ _ | with_reducible exact fair_cquotient _ _ _ _ | with_reducible exact fair_complexOp _ _ _ _ _ _ | with_reducible exact fair_movedNumber _ _ _ | with_reducible exact fair_movedPointer _ _ _ | with_reducible exact fair_twoPlaces _ _ | with_reducible exact fair_addrSub _ _ _ | with_reducible exact fair_addrCmp _ _ _ | with_reducible exact fair_unary _ _ | with_reducible exact fair_len _ _ _ | with_reducible exact fair_clear _ _ _ | with_reducible exact fair_lenOf _ | with_reducible exact fair_firstCells _ _ _ | with_reducible exact fair_addrMod _ _ _ | with_reducible exact fair_eqGuardIn _ _ _ _ | with_reducible exact fair_eqGuard _ _ _ _ _ _ | with_reducible exact fair_append _ _ _ | with_reducible exact ih _ _ _ | with_reducible exact fair_followBlind _ _ _ | with_reducible apply fair_map | (with_reducible refine fair_bind ?_ fun _ => ?_) | split | dsimp only)

theorem never_panic (x : Value) : Never P (Instr.panic x) := by
  have rt : ∀ e, Never P (runtimePanic e : Sem Value) := by
    intro e
    unfold runtimePanic
    refine never_bind fun p => ?_
    cases e <;> first | exact never_halt _ | exact never_bind fun _ => never_halt _ | exact never_bind fun _ => never_bind fun _ => never_halt _
  unfold Instr.panic
  split
  · exact never_halt _
  · refine never_bind fun n => ?_
    split
    · exact never_halt _
    · exact rt _
  · exact never_halt _

theorem calm_panic (x : Value) : Calm P (Instr.panic x) := by
  unfold Instr.panic
  split
  · exact calm_halt fun _ => trivial
  · refine calm_bind ?_ fun n => ?_
    · unfold Instr.panicnil
      refine calm_sys fun r => ?_
      show Calm P (match r with | .strings env => _ | _ => _)
      split
      · exact calm_program (calm_pure _)
      · exact calm_halt fun _ => trivial
    · split
      · exact calm_halt fun _ => trivial
      · exact (fair_rt _).calm
  · exact calm_halt fun _ => trivial
/-- A function with a body of its own, called by name. -/
def bodyB (P : Program) (f : FuncId) : Bool := match P.funcs[f]? with | some fn => fn.body.isSome && !(fn.name == "runtime.NumGoroutine") | none => false
theorem callFunc_body {f : FuncId} (h : bodyB P f = true) (args : Array Value) : ∀ (w : World) (es : Array Event), (callFunc f args).runT P w es = (.ok (.enter f args) w, es) := by
  intro w es
  unfold bodyB at h
  show Sem.runT P (match P.funcs[f]? with
    | none => stuck "call: no such function"
    | some fn => _) w es = _
  split at h
  · rename_i fn hf
    simp only [Bool.and_eq_true, Bool.not_eq_true'] at h
    rw [hf]
    dsimp only
    rw [if_neg (by simp [h.2]), if_neg (by simpa using Option.isSome_iff_ne_none.1 h.1)]
    rfl
  · cases h
theorem fair_callFunc {f : FuncId} (h : bodyB P f = true) (args : Array Value) : Fair P (callFunc f args) := by
  refine ⟨fun w es x w' es' e => (by rw [callFunc_body h] at e; cases e), ?_⟩
  intro Sh w u es a w' es' hr e
  have e0 := e
  rw [callFunc_body h] at e
  simp only [Prod.mk.injEq, Result.ok.injEq] at e
  obtain ⟨⟨rfl, rfl⟩, rfl⟩ := e
  exact sim_pure (P := P) (Next.enter f args) Sh w u es _ w es hr rfl |>.imp id fun k win => by
    obtain ⟨Δ, h1, h2⟩ := k win
    refine ⟨Δ, h1, fun fs => ?_⟩
    rw [callFunc_body h]
    exact h2 fs

def intB (P : Program) (t : TypeId) : Bool := match P.underlying t with | some (.int _) => true | _ => false
theorem intB_some {t : TypeId} (h : intB P t = true) : ∃ k, P.underlying t = some (.int k) := by
  unfold intB at h
  split at h
  · exact ⟨_, ‹_›⟩
  · cases h

/-- The operations that may stand behind a phase; K: which functions may be called. -/
def okOp (P : Program) (K : FuncId → Bool) (o : Oper) : Bool :=
  match o.op with
  | .move _ | .assign _ | .pick .. | .alloc _ | .box .. | .build .. | .buildSlice .. | .load .. | .store .. | .nilCheck _ | .unOp .. | .makeInterface .. | .makeFunc .. | .makeSlice .. | .slice ..
  | .fieldAddr .. | .field .. | .indexAddr .. | .index .. | .extract .. | .panic _ => true
  | .binOp op t _ _ _ => match op with | .eql | .neq => flatB P Op.maxDepth t | _ => true
  | .convert s d _ => intB P s && intB P d
  | .call c => match c.callee with
    | .builtin .append | .builtin .len | .builtin .clear => true
    | .value (.func f) => K f && bodyB P f
    | _ => false
  | _ => false

/-- What such an operation may come to. -/
def okNext (K : FuncId → Bool) : Next → Prop
  | .value _ | .skip => True
  | .enter f _ => K f = true
  | _ => False
theorem fair_execOp {K : FuncId → Bool} {fr : Frame} {o : Oper} (h : okOp P K o = true) : Fair P (execOp fr.eval o) := by
  have vv : ∀ {s : Sem Value}, Fair P s → Fair P (do pure (Next.value (← s))) := fun hs => fair_bind hs fun _ => fair_ret _
  have uu : ∀ {s : Sem Unit}, Fair P s → Fair P (do s; pure Next.skip) := fun hs => fair_bind hs fun _ => fair_ret _
  unfold okOp at h
  unfold execOp
  dsimp only
  cases hop : o.op <;> rw [hop] at h <;> dsimp only at h ⊢ <;> try (cases h; done)
  case move => exact fair_ret _
  case assign => exact fair_ret _
  case pick => exact fair_bind (fair_asBool _) fun _ => fair_ret _
  case alloc => exact vv (fair_alloc _ _ _)
  case box => exact vv (fair_box _ _)
  case build => exact vv (fair_build _ _)
  case buildSlice => exact vv (fair_buildSlice _ _ _)
  case load => exact vv (fair_loadAt _ _)
  case store => exact uu (fair_storeAt _ _ _)
  case nilCheck => (repeat' first | with_reducible exact fair_ret _ | with_reducible exact fair_pure _ | with_reducible exact fair_stuck _ | ((with_reducible refine fair_unsupported _ ?_); exact fun _ => trivial) | with_reducible exact fair_goPanic _ | with_reducible exact fair_program' | with_reducible exact fair_choose' _ | with_reducible exact fair_load' _ _ | with_reducible exact fair_store' _ _ _ | with_reducible exact fair_newObj _ | with_reducible exact fair_frozen' _ | with_reducible exact fair_getObj' _ | with_reducible exact fair_setObj' _ _ | with_reducible exact fair_askRoom _ | with_reducible exact fair_typeInfo _ | with_reducible exact fair_underlying _ | with_reducible exact fair_zeroValue _ | with_reducible exact fair_sizeOf _ | with_reducible exact fair_isAgg _ | with_reducible exact fair_loadVar _ _ | with_reducible exact fair_storeVar _ _ _ | with_reducible exact fair_newRow _ _ | with_reducible exact fair_elemOf _ | with_reducible exact fair_part _ _ _ | with_reducible exact fair_rt _ | with_reducible exact fair_bounds _ _ _ _ | with_reducible exact fair_asIntOf _ | with_reducible exact fair_asInt _ | with_reducible exact fair_asBool _ | with_reducible exact fair_asString _ | with_reducible exact fair_asAgg _ | with_reducible exact fair_asAddr _ | with_reducible exact fair_sureAddr _ | with_reducible exact fair_alloc _ _ _ | with_reducible exact fair_box _ _ | with_reducible exact fair_buildSlice _ _ _ | with_reducible exact fair_index _ _ _ | with_reducible exact fair_field _ _ _ | with_reducible exact fair_extract _ _ | with_reducible exact fair_makeSlice _ _ _ | with_reducible exact fair_sliceBound _ _ _ | with_reducible exact fair_sliceBounds _ _ _ _ _ _ | with_reducible exact fair_slice _ _ _ _ _ | with_reducible exact fair_sliceAt _ _ _ _ _ | with_reducible exact fair_loadAt _ _ | with_reducible exact fair_storeAt _ _ _ | with_reducible exact fair_indexAt _ _ _ | with_reducible exact fair_makeFunc _ _ _ | with_reducible exact fair_makeInterface _ _ | with_reducible exact fair_loadCells _ _ | with_reducible exact fair_storeCells _ _ _ | with_reducible exact fair_newVar _ _ | with_reducible exact fair_viewAt _ | with_reducible exact fair_numberAt _ | with_reducible exact fair_noView _ | with_reducible exact fair_behindNumber _ | with_reducible exact fair_asNumber _ _ | with_reducible exact fair_byteOf _ | with_reducible exact fair_partAt _ _ _ | with_reducible exact fair_fieldPlace _ _ | with_reducible exact fair_fieldAt _ _ _ | with_reducible exact fair_unsafeAdd _ _ _ | with_reducible exact fair_intArith _ _ _ _ | with_reducible exact fair_intBits _ _ _ _ | with_reducible exact fair_intCmp _ _ _ | with_reducible exact fair_intDiv _ _ _ _ | with_reducible exact fair_shift _ _ _ _ _ | with_reducible exact fair_stringOp _ _ _ | with_reducible exact fair_floatArith _ _ _ _ | with_reducible exact fair_floatCmp _ _ _ _ | with_reducible exact fair_f2f _ _ _ | with_reducible exact fair_carith _ _ _ _ | with_reducible exact fair_cadd _ _ | with_reducible exact fair_csub _ _ | with_reducible exact fair_cmul _ _ | with_reducible exact fair_cquo _ _ | with_reducible exact fair_ccmp _ _ _ _ | with_reducible exact fair_cconv _ _ _ | with_reducible exact fair_cproduct _ _ _ _ | with_reducible exact fair_ccorrected _ _ _ _ _ | with_reducible exact fair_cquotient _ _ _ _ | with_reducible exact fair_complexOp _ _ _ _ _ _ | with_reducible exact fair_movedNumber _ _ _ | with_reducible exact fair_movedPointer _ _ _ | with_reducible exact fair_twoPlaces _ _ | with_reducible exact fair_addrSub _ _ _ | with_reducible exact fair_addrCmp _ _ _ | with_reducible exact fair_unary _ _ | with_reducible exact fair_len _ _ _ | with_reducible exact fair_clear _ _ _ | with_reducible exact fair_lenOf _ | with_reducible exact fair_firstCells _ _ _ | with_reducible exact fair_addrMod _ _ _ | with_reducible exact fair_eqGuardIn _ _ _ _ | with_reducible exact fair_eqGuard _ _ _ _ _ _ | with_reducible exact fair_append _ _ _ | with_reducible exact fair_nilAhead _ _ _ _ | with_reducible apply fair_map | (with_reducible refine fair_bind ?_ fun _ => ?_) | split | dsimp only)
  case unOp => exact vv (fair_unary _ _)
  case makeInterface => exact vv (fair_makeInterface _ _)
  case makeFunc => exact vv (fair_makeFunc _ _ _)
  case makeSlice => exact vv (fair_makeSlice _ _ _)
  case slice => exact vv (fair_sliceAt _ _ _ _ _)
  case fieldAddr => exact vv (fair_fieldAt _ _ _)
  case field => exact vv (fair_field _ _ _)
  case indexAddr => exact vv (fair_indexAt _ _ _)
  case index => exact vv (fair_index _ _ _)
  case extract => exact vv (fair_extract _ _)
  case panic => exact vv (fair_never (never_panic _) (calm_panic _))
  case binOp op t x y c => exact vv (fair_bind (fair_eqGuard _ _ _ _ _ _) fun _ => fair_binOp _ _ _ _ (by rintro (rfl | rfl) <;> exact h))
  case convert s d x =>
    simp only [Bool.and_eq_true] at h
    exact vv (fair_convert _ _ _ (intB_some h.1) (intB_some h.2))
  case call c =>
    unfold resolve
    dsimp only
    split at h
    · rename_i hc; rw [hc]; exact vv (fair_append _ _ _)
    · rename_i hc; rw [hc]; exact vv (fair_len _ _ _)
    · rename_i hc; rw [hc]; exact vv (fair_clear _ _ _)
    · rename_i f hc
      rw [hc]
      simp only [Bool.and_eq_true] at h
      exact fair_callFunc h.2 _
    · cases h
end
end Go.Br

namespace Go.Br
open Go
set_option linter.unusedVariables false
set_option linter.unusedSimpArgs false

/-- Code that may stand behind a phase. -/
def okCode (P : Program) (K : FuncId → Bool) : Code → Bool
  | .skip | .label _ | .ret | .exit _ | .goto _ => true
  | .seq a b | .cond _ a b => okCode P K a && okCode P K b
  | .block _ c | .loop c | .scope c => okCode P K c
  | .region _ ops _ => ops.toList.all (okOp P K)
  | _ => false

def okItem (P : Program) (K : FuncId → Bool) : Item → Bool
  | .code c | .inLoop c | .inScope c => okCode P K c
  | .inBlock _ => true
  | .inRegion ops _ => ops.toList.all (okOp P K)
  | _ => false

/-- The functions: closed, each with a body that may stand behind a phase. -/
def Closed (P : Program) (K : FuncId → Bool) : Prop := ∀ f, K f = true → ∃ fn c, P.funcs[f]? = some fn ∧ fn.body = some c ∧ okCode P K c = true

structure KFrame (P : Program) (K : FuncId → Bool) (fr : Frame) : Prop where
  kind : fr.kind = .normal
  round : fr.roundOf = none
  defers : fr.defers = []
  fn : K fr.fn = true
  todo : ∀ it ∈ fr.todo, okItem P K it = true

/-- A frame and its callers of the same functions. -/
structure KSt (P : Program) (K : FuncId → Bool) (fr : Frame) (kcs : List Frame) : Prop where
  frame : KFrame P K fr
  mode : fr.mode = .run ∨ fr.mode = .returning
  callers : ∀ c ∈ kcs, KFrame P K c ∧ c.mode = .run

/-- The goroutine of such frames above a base. -/
def gor (fr : Frame) (kcs base : List Frame) : Goroutine := ⟨fr, kcs ++ base, .running, none, none⟩

/-- What has an initialiser is a row of cells already. -/
def NP (P : Program) (w : World) : Prop := ∀ b, P.stepOf b ≠ none → IsCells w b

/-- How a step goes, whatever the base: control alone; lost; or one tree of operations. -/
inductive Kind (P : Program) (K : FuncId → Bool) (fr : Frame) (kcs : List Frame) : Prop
  | ctl (fr' : Frame) (kcs' : List Frame) (hk : KSt P K fr' kcs') (h : ∀ base w, stepG P true (gor fr kcs base) w = .go (gor fr' kcs' base) w)
  | lost (h : ∀ base w, ∃ o, stepG P true (gor fr kcs base) w = .ended o w)
  | tree {α : Type} (t : Sem α) (ht : Fair P t) (F : α → Frame × List Frame) (E : Array Event → Array Event) (hE : ∀ es e, e ∈ E es → e ∈ es)
      (ok : ∀ base w a w' es, t.runT P w #[] = (.ok a w', es) → stepG P true (gor fr kcs base) w = .go (gor (F a).1 (F a).2 base) w' (E es) ∧ KSt P K (F a).1 (F a).2)
      (dead : ∀ base w h w' es, t.runT P w #[] = (.halt h w', es) → Dead h → ∃ o w'' es', stepG P true (gor fr kcs base) w = .ended o w'' es')
      (halt : ∀ base w h w' es, t.runT P w #[] = (.halt h w', es) → NP P w' → (∃ o w'' es', stepG P true (gor fr kcs base) w = .ended o w'' es') ∨
        ∃ es' chain, stepG P true (gor fr kcs base) w = .go (gor { fr with mode := .panicking chain } kcs base) w' es')
  | leaving (fn : Func) (hf : P.funcs[fr.fn]? = some fn) (hm : fr.mode = .returning)

section
variable {P : Program} {K : FuncId → Bool} {base : List Frame}

theorem exitTo_mem {id : Nat} : ∀ {l l' : List Item}, exitTo id l = some l' → ∀ x ∈ l', x ∈ l
  | [], l', h => by simp [exitTo] at h
  | it :: k, l', h => by
    intro x hx
    unfold exitTo at h
    split at h
    · split at h
      · rename_i e _; cases e; cases h; exact List.mem_cons_of_mem _ hx
      · rename_i e _; cases e; exact List.mem_cons_of_mem _ (exitTo_mem h x hx)
    · rename_i e; cases e; exact List.mem_cons_of_mem _ (exitTo_mem h x hx)
    · rename_i e; cases e

theorem findLabel_ok : ∀ {c : Code} {l : Nat} {r : Code}, findLabel c l = some r → okCode P K c = true → okCode P K r = true
  | c, l, r, h, hc => by
    unfold findLabel at h
    split at h
    · rename_i a b
      unfold okCode at hc
      simp only [Bool.and_eq_true] at hc
      split at h
      · rename_i rest hr
        cases h
        unfold okCode
        simp only [Bool.and_eq_true]
        exact ⟨findLabel_ok hr hc.1, hc.2⟩
      · exact findLabel_ok h hc.2
    · split at h
      · cases h; rfl
      · cases h
    · cases h

theorem gotoIn_ok {l : Nat} : ∀ {k k' : List Item}, gotoIn l k = some k' → (∀ it ∈ k, okItem P K it = true) → ∀ it ∈ k', okItem P K it = true
  | [], k', h, _ => by simp [gotoIn] at h
  | it :: k, k', h, hk => by
    unfold gotoIn at h
    split at h
    · rename_i body k2 e
      cases e
      split at h
      · rename_i rest hr
        cases h
        intro x hx
        rcases List.mem_cons.1 hx with rfl | hx
        · have := hk _ (List.mem_cons_self ..)
          exact findLabel_ok (K := K) hr (by simpa [okItem] using this)
        · exact hk x hx
      · exact gotoIn_ok h fun x hx => hk x (List.mem_cons_of_mem _ hx)
    · rename_i e; cases e; exact gotoIn_ok h fun x hx => hk x (List.mem_cons_of_mem _ hx)
    · rename_i e; cases e

theorem seen_sub {fn : FuncId} {es : Array Event} {e : Event} (h : e ∈ seen P fn es) : e ∈ es := by
  unfold seen at h
  dsimp only at h
  rw [← Array.foldl_toList] at h
  have key : ∀ (l : List Event) (q : Bool) (acc : Array Event), e ∈ (l.foldl (fun (x : Bool × Array Event) (e : Event) => match e.loc with
      | .mark (.extern f) => ((P.funcs[f]?).any (·.norace), x.2)
      | _ => (x.1, if x.1 && !e.sync then x.2 else x.2.push e)) (q, acc)).2 → e ∈ acc ∨ e ∈ l := by
    intro l
    induction l with
    | nil => intro q acc h; exact .inl h
    | cons a l ih =>
      intro q acc h
      rw [List.foldl_cons] at h
      dsimp only at h
      split at h
      · rcases ih _ _ h with h | h
        · exact .inl h
        · exact .inr (List.mem_cons_of_mem _ h)
      · rcases ih _ _ h with h | h
        · split at h
          · exact .inl h
          · rcases Array.mem_push.1 h with h | h
            · exact .inl h
            · exact .inr (by rw [h]; exact List.mem_cons_self ..)
        · exact .inr (List.mem_cons_of_mem _ h)
  rcases key _ _ _ h with h | h
  · simp at h
  · simpa using h

theorem next_value {s : Sem Value} {w w' : World} {es es' : Array Event} {n : Next} (h : (do pure (Next.value (← s)) : Sem Next).runT P w es = (.ok n w', es')) : okNext K n := by
  rw [show (do pure (Next.value (← s)) : Sem Next) = s.bind fun v => .pure (.value v) from rfl, Sem.runT_bind'] at h
  split at h
  · simp only [Sem.runT, Prod.mk.injEq, Result.ok.injEq] at h
    obtain ⟨⟨rfl, _⟩, _⟩ := h
    trivial
  · cases h
theorem next_skip {s : Sem Unit} {w w' : World} {es es' : Array Event} {n : Next} (h : (do s; pure Next.skip : Sem Next).runT P w es = (.ok n w', es')) : okNext K n := by
  rw [show (do s; pure Next.skip : Sem Next) = s.bind fun _ => .pure .skip from rfl, Sem.runT_bind'] at h
  split at h
  · simp only [Sem.runT, Prod.mk.injEq, Result.ok.injEq] at h
    obtain ⟨⟨rfl, _⟩, _⟩ := h
    trivial
  · cases h
theorem next_pure {v : Value} {w w' : World} {es es' : Array Event} {n : Next} (h : (pure (Next.value v) : Sem Next).runT P w es = (.ok n w', es')) : okNext K n := by
  simp only [pure, Sem.runT, Prod.mk.injEq, Result.ok.injEq] at h
  obtain ⟨⟨rfl, _⟩, _⟩ := h
  trivial

def Gives (P : Program) {α : Type} (Q : α → Prop) (t : Sem α) : Prop := ∀ w es a w' es', t.runT P w es = (.ok a w', es') → Q a
theorem gives_bind {α β : Type} {Q : β → Prop} {x : Sem α} {f : α → Sem β} (hf : ∀ a, Gives P Q (f a)) : Gives P Q (x >>= f) := fun w es b w' es' e => by
  rw [show (x >>= f) = x.bind f from rfl, Sem.runT_bind'] at e
  split at e
  · exact hf _ _ _ _ _ _ e
  · cases e
theorem gives_pure {α : Type} {Q : α → Prop} {a : α} (h : Q a) : Gives P Q (pure a) := fun w es b w' es' e => by
  simp only [pure, Sem.runT, Prod.mk.injEq, Result.ok.injEq] at e
  rw [← e.1.1]; exact h
theorem gives_never {α : Type} {Q : α → Prop} {t : Sem α} (h : Never P t) : Gives P Q t := fun w es b w' es' e => absurd e (h w es b w' es')
theorem never_rt {α : Type} (e : RuntimeError) : Never P (runtimePanic e : Sem α) := by
  unfold runtimePanic
  refine never_bind fun p => ?_
  cases e <;> first | exact never_halt _ | exact never_bind fun _ => never_halt _ | exact never_bind fun _ => never_bind fun _ => never_halt _
theorem execOp_next {fr : Frame} {o : Oper} (h : okOp P K o = true) {w w' : World} {es es' : Array Event} {n : Next} (hr : (execOp fr.eval o).runT P w es = (.ok n w', es')) : okNext K n := by
  unfold okOp at h
  unfold execOp at hr
  dsimp only at hr
  cases hop : o.op <;> rw [hop] at h hr <;> dsimp only at h hr <;> try (cases h; done)
  case nilCheck x =>
    refine (?_ : Gives P (okNext K) _) _ _ _ _ _ hr
    split
    all_goals repeat' first
      | exact gives_never (never_rt _)
      | exact gives_never (never_halt _)
      | exact gives_pure trivial
      | refine gives_bind fun _ => ?_
      | split
  case pick => exact (gives_bind fun _ => gives_pure (a := Next.value _) trivial : Gives P (okNext K) _) _ _ _ _ _ hr
  case call c =>
    unfold resolve at hr
    dsimp only at hr
    split at h
    · rename_i hc; rw [hc] at hr; exact next_value (K := K) hr
    · rename_i hc; rw [hc] at hr; exact next_value (K := K) hr
    · rename_i hc; rw [hc] at hr; exact next_value (K := K) hr
    · rename_i f hc
      rw [hc] at hr
      simp only [Bool.and_eq_true] at h
      have hr' : (callFunc f (#[] ++ c.args.map fr.eval ++ #[])).runT P w es = (.ok n w', es') := hr
      rw [callFunc_body h.2] at hr'
      simp only [Prod.mk.injEq, Result.ok.injEq] at hr'
      obtain ⟨⟨rfl, _⟩, _⟩ := hr'
      exact h.1
    · cases h
  all_goals first | exact next_value (K := K) hr | exact next_skip (K := K) hr | exact next_pure (K := K) hr

/-! ### the shape of a step -/

theorem stepG_run {fr : Frame} {cs : List Frame} {st : GoStatus} {of} {w : World} (hm : fr.mode = .run) : stepG P true ⟨fr, cs, st, none, of⟩ w = stepG.exec P true true fr cs none w := by
  unfold stepG; simp only [hm]

theorem ended_of_early {fr : Frame} {cs : List Frame} {b : Nat} {w : World} (hS : P.follows .staticDataAhead = true) (hp : ∃ c e, w.heap[b]? = some (.pending c e)) (hN : NP P w) : ∃ o w'' es', early P fr cs none b w = .ended o w'' es' := by
  have hs : P.stepOf b = none := by
    cases hs : P.stepOf b with
    | none => rfl
    | some f =>
      obtain ⟨c, e, f, h⟩ := hN b (by rw [hs]; simp)
      obtain ⟨c', e', h'⟩ := hp
      rw [h] at h'; cases h'
  unfold early
  simp only [hS, hs, Bool.not_true, Bool.false_eq_true, if_false]
  exact ⟨_, _, _, rfl⟩

theorem kind_of (hS : P.follows .staticDataAhead = true) (hC : Closed P K) {fr : Frame} {kcs : List Frame} (h : KSt P K fr kcs) : Kind P K fr kcs := by
  obtain ⟨hf, hm, hc⟩ := h
  rcases hm with hm | hm
  case inr =>
    obtain ⟨fn, c, hfn, _, _⟩ := hC _ hf.fn
    exact .leaving fn hfn hm
  obtain ⟨f, tmps, todo, ds, m, kd, rd⟩ := fr
  obtain ⟨hk, hr, hd, hfn, ht⟩ := hf
  dsimp only at hk hr hd hfn ht hm
  subst hk hr hd hm
  have hF : ∀ todo : List Item, (∀ it ∈ todo, okItem P K it = true) → ∀ (m : FrameMode) (tmps : Array Value), (m = .run ∨ m = .returning) → KSt P K ⟨f, tmps, todo, [], m, .normal, none⟩ kcs :=
    fun todo ht m tmps hm => ⟨⟨rfl, rfl, rfl, hfn, ht⟩, hm, hc⟩
  have hE : ∀ (td : List Item) (fr' : Frame), (∀ cs w, stepG.exec P true true ⟨f, tmps, td, [], .run, .normal, none⟩ cs none w = .go ⟨fr', cs, .running, none, none⟩ w) → KSt P K fr' kcs → Kind P K ⟨f, tmps, td, [], .run, .normal, none⟩ kcs :=
    fun td fr' hs hk => .ctl fr' kcs hk fun base w => (stepG_run rfl).trans (hs _ w)
  have hL : ∀ (td : List Item), (∀ cs w, ∃ o, stepG.exec P true true ⟨f, tmps, td, [], .run, .normal, none⟩ cs none w = .ended o w) → Kind P K ⟨f, tmps, td, [], .run, .normal, none⟩ kcs :=
    fun td hs => .lost fun base w => let ⟨o, ho⟩ := hs _ w; ⟨o, (stepG_run rfl).trans ho⟩
  cases todo with
  | nil => exact hE [] _ (fun cs w => rfl) (hF [] (by simp) .returning tmps (.inr rfl))
  | cons it k =>
    have hk : ∀ it ∈ k, okItem P K it = true := fun x hx => ht x (List.mem_cons_of_mem _ hx)
    have hi := ht it (List.mem_cons_self ..)
    have hcons : ∀ (it : Item) (k : List Item), okItem P K it = true → (∀ it ∈ k, okItem P K it = true) → ∀ x ∈ it :: k, okItem P K x = true := by
      intro it k h1 h2 x hx
      rcases List.mem_cons.1 hx with rfl | hx
      · exact h1
      · exact h2 x hx
    cases it <;> (first | (simp only [okItem, Bool.false_eq_true] at hi; done) | skip)
    case inBlock id => exact hE _ _ (fun cs w => rfl) (hF k hk .run tmps (.inl rfl))
    case inScope b => exact hE _ _ (fun cs w => rfl) (hF k hk .run tmps (.inl rfl))
    case inLoop b => exact hE _ _ (fun cs w => rfl) (hF _ (hcons (.code b) _ hi (hcons (.inLoop b) _ hi hk)) .run tmps (.inl rfl))
    case inRegion ops l =>
      have hops : ∀ l, okItem P K (.inRegion ops l) = true := fun l => hi
      cases l with
      | nil => exact hE _ _ (fun cs w => rfl) (hF k hk .run tmps (.inl rfl))
      | cons i l =>
        let tm : Value → Array Value := fun v => match (ops[i]?).bind (·.dst) with | some d => tmps.setIfInBounds d v | none => tmps
        cases hwant : ((ops[i]?).map (Region.wanted · (yielded ops tmps))).getD false with
        | false => exact hE _ _ (fun cs w => by unfold stepG.exec; simp only [hwant, Bool.false_eq_true, if_false]; rfl) (hF _ (hcons (.inRegion ops l) _ (hops _) hk) .run (tm undef) (.inl rfl))
        | true =>
          cases hop : ops[i]? with
          | none => exact hL _ fun cs w => ⟨_, by unfold stepG.exec; simp only [hwant, if_true]; unfold stepG.oper; simp only [Frame.oper?, hop]; rfl⟩
          | some o =>
            have hok : okOp P K o = true := by
              have := hi
              unfold okItem at this
              exact List.all_eq_true.1 this o (by simpa using Array.mem_of_getElem? hop)
            have hst : ∀ (cs : List Frame) (w : World), stepG P true ⟨⟨f, tmps, .inRegion ops (i :: l) :: k, [], .run, .normal, none⟩, cs, .running, none, none⟩ w = stepG.apply P true ⟨f, tmps, .inRegion ops (i :: l) :: k, [], .run, .normal, none⟩ cs none (execOp (Frame.eval ⟨f, tmps, .inRegion ops (i :: l) :: k, [], .run, .normal, none⟩) o) w := by
              intro cs w
              refine (stepG_run rfl).trans ?_
              unfold stepG.exec
              simp only [hwant, if_true]
              unfold stepG.oper
              simp only [Frame.oper?, hop]
            have hm' : KFrame P K ⟨f, tmps, .inRegion ops (i :: l) :: k, [], .run, .normal, none⟩ := ⟨rfl, rfl, rfl, hfn, ht⟩
            refine .tree (execOp (Frame.eval ⟨f, tmps, .inRegion ops (i :: l) :: k, [], .run, .normal, none⟩) o) (fair_execOp hok)
              (fun n => match n with
                | .value v => (⟨f, tm v, .inRegion ops l :: k, [], .run, .normal, none⟩, kcs)
                | .enter g args => (Frame.enter P g args .normal, ⟨f, tmps, .inRegion ops (i :: l) :: k, [], .run, .normal, none⟩ :: kcs)
                | _ => (⟨f, tm undef, .inRegion ops l :: k, [], .run, .normal, none⟩, kcs))
              (fun es => seen P f es ++ #[]) (fun es e he => seen_sub (P := P) (fn := f) (by simpa using he)) (fun base w n w' es h => ?_) (fun base w h w' es hh hd => ?_) (fun base w h w' es hh hN => ?_)
            · have hn := execOp_next hok h
              cases n <;> first | exact hn.elim | skip
              case value v =>
                refine ⟨(hst _ w).trans ?_, hF _ (hcons (.inRegion ops l) _ (hops _) hk) .run (tm v) (.inl rfl)⟩
                unfold stepG.apply
                simp only [if_true, h]
                rfl
              case skip =>
                refine ⟨(hst _ w).trans ?_, hF _ (hcons (.inRegion ops l) _ (hops _) hk) .run (tm undef) (.inl rfl)⟩
                unfold stepG.apply
                simp only [if_true, h]
                rfl
              case enter g args =>
                refine ⟨(hst _ w).trans ?_, ?_⟩
                · unfold stepG.apply
                  simp only [if_true, h]
                  rfl
                · obtain ⟨fn, c, h1, h2, h3⟩ := hC g hn
                  refine ⟨⟨rfl, rfl, rfl, hn, fun it hit => ?_⟩, .inl rfl, fun c hc' => ?_⟩
                  · simp only [Frame.enter, h1, Option.bind_some, h2, Option.getD_some, List.mem_singleton] at hit
                    rw [hit]; exact h3
                  · rcases List.mem_cons.1 hc' with rfl | hc'
                    · exact ⟨hm', rfl⟩
                    · exact hc c hc'
            · rcases hd with ⟨s, rfl⟩ | ⟨s, rfl⟩
              · exact ⟨_, _, _, (hst _ w).trans (by unfold stepG.apply; simp only [if_true, hh]; rfl)⟩
              · exact ⟨_, _, _, (hst _ w).trans (by unfold stepG.apply; simp only [if_true, hh]; rfl)⟩
            · have hq := (fair_execOp hok).calm w _ _ _ _ hh
              cases h <;> first | exact hq.elim | skip
              case panic v => exact .inr ⟨_, _, (hst _ w).trans (by unfold stepG.apply; simp only [if_true, hh]; rfl)⟩
              case stuck s => exact .inl ⟨_, _, _, (hst _ w).trans (by unfold stepG.apply; simp only [if_true, hh]; rfl)⟩
              case unsupported u =>
                cases u
                case initOrder b =>
                  obtain ⟨o', w'', es', he⟩ := ended_of_early (fr := ⟨f, tmps, .inRegion ops (i :: l) :: k, [], .run, .normal, none⟩) (cs := kcs ++ base) hS hq hN
                  refine .inl ⟨_, _, _, (hst _ w).trans (?_ : _ = GStep.after (seen P f #[]) (.ended o' w'' es'))⟩
                  unfold stepG.apply
                  simp only [if_true, hh]
                  rw [← he]
                  rfl
                all_goals exact .inl ⟨_, _, _, (hst _ w).trans (by unfold stepG.apply; simp only [if_true, hh]; rfl)⟩
    case code c =>
      unfold okItem at hi
      cases c <;> (first | (simp only [okCode, Bool.false_eq_true] at hi; done) | skip)
      case skip => exact hE _ _ (fun cs w => rfl) (hF k hk .run tmps (.inl rfl))
      case label => exact hE _ _ (fun cs w => rfl) (hF k hk .run tmps (.inl rfl))
      case ret => exact hE _ _ (fun cs w => rfl) (hF _ ht .returning tmps (.inr rfl))
      case seq a b =>
        unfold okCode at hi; simp only [Bool.and_eq_true] at hi
        exact hE _ _ (fun cs w => rfl) (hF _ (hcons (.code a) _ hi.1 (hcons (.code b) _ hi.2 hk)) .run tmps (.inl rfl))
      case cond c a b =>
        unfold okCode at hi; simp only [Bool.and_eq_true] at hi
        cases hv : Frame.eval ⟨f, tmps, .code (.cond c a b) :: k, [], .run, .normal, none⟩ c
        case bool v =>
          refine hE _ _ (fun cs w => by unfold stepG.exec; simp only [hv]) (hF _ (hcons (.code (if v then a else b)) _ ?_ hk) .run tmps (.inl rfl))
          cases v
          · exact hi.2
          · exact hi.1
        all_goals exact hL _ fun cs w => ⟨_, by unfold stepG.exec; simp only [hv]; rfl⟩
      case block id c => exact hE _ _ (fun cs w => rfl) (hF _ (hcons (.code c) _ hi (hcons (.inBlock id) _ rfl hk)) .run tmps (.inl rfl))
      case loop c => exact hE _ _ (fun cs w => rfl) (hF _ (hcons (.code c) _ hi (hcons (.inLoop c) _ hi hk)) .run tmps (.inl rfl))
      case scope c => exact hE _ _ (fun cs w => rfl) (hF _ (hcons (.code c) _ hi (hcons (.inScope c) _ hi hk)) .run tmps (.inl rfl))
      case exit id =>
        cases he : exitTo id k with
        | none => exact hL _ fun cs w => ⟨_, by unfold stepG.exec; simp only [he, Option.elim]; rfl⟩
        | some k' => exact hE _ _ (fun cs w => by unfold stepG.exec; simp only [he, Option.elim]) (hF _ (fun x hx => hk x (exitTo_mem he x hx)) .run tmps (.inl rfl))
      case goto l =>
        cases he : gotoIn l k with
        | none => exact hL _ fun cs w => ⟨_, by unfold stepG.exec; simp only [he, Option.elim]; rfl⟩
        | some k' => exact hE _ _ (fun cs w => by unfold stepG.exec; simp only [he, Option.elim]) (hF _ (gotoIn_ok he hk) .run tmps (.inl rfl))
      case region id ops draw =>
        have hops : ∀ l, okItem P K (.inRegion ops l) = true := fun l => hi
        cases draw with
        | false => exact hE _ _ (fun cs w => rfl) (hF _ (hcons (.inRegion ops (List.range ops.size)) _ (hops _) hk) .run tmps (.inl rfl))
        | true =>
          refine .tree (choose (.order f id)) (fair_choose' _) (fun t => (⟨f, tmps, .inRegion ops (Region.schedule (P.follows .mixedOrders) ops t) :: k, [], .run, .normal, none⟩, kcs)) (fun _ => #[]) (fun es e he => by simp at he) (fun base w a w' es h => ⟨?_, hF _ (hcons (.inRegion ops _) _ (hops _) hk) .run tmps (.inl rfl)⟩) (fun base w h w' es hh => ?_) (fun base w h w' es hh => ?_)
          · have hr : (choose (.order f id)).run P w = .ok a w' := by rw [← Sem.runT_fst P (choose (.order f id)) w #[], h]
            refine (stepG_run rfl).trans ?_
            unfold stepG.exec
            simp only [Bool.not_true, Bool.false_eq_true, if_false, hr]
            rfl
          all_goals
            exfalso
            simp only [choose, Sem.runT] at hh
            split at hh <;> cases hh
end
end Go.Br

namespace Go.Br
open Go
set_option linter.unusedVariables false
set_option linter.unusedSimpArgs false

/-- How a step goes, the return to a caller among the trees, whatever the base; or it stands at the return to the base. -/
inductive MoveG (P : Program) (K : FuncId → Bool) (fr : Frame) (kcs : List Frame) : Prop
  | ctl (fr' : Frame) (kcs' : List Frame) (hk : KSt P K fr' kcs') (h : ∀ base w, stepG P true (gor fr kcs base) w = .go (gor fr' kcs' base) w)
  | lost (h : ∀ base w, ∃ o, stepG P true (gor fr kcs base) w = .ended o w)
  | tree {α : Type} (t : Sem α) (ht : Fair P t) (F : α → Frame × List Frame) (E : Array Event → Array Event) (hE : ∀ es e, e ∈ E es → e ∈ es)
      (ok : ∀ base w a w' es, t.runT P w #[] = (.ok a w', es) → stepG P true (gor fr kcs base) w = .go (gor (F a).1 (F a).2 base) w' (E es) ∧ KSt P K (F a).1 (F a).2)
      (dead : ∀ base w h w' es, t.runT P w #[] = (.halt h w', es) → Dead h → ∃ o w'' es', stepG P true (gor fr kcs base) w = .ended o w'' es')
      (halt : ∀ base w h w' es, t.runT P w #[] = (.halt h w', es) → NP P w' → (∃ o w'' es', stepG P true (gor fr kcs base) w = .ended o w'' es') ∨
        ∃ es' chain, stepG P true (gor fr kcs base) w = .go (gor { fr with mode := .panicking chain } kcs base) w' es')
  | stop (fn : Func) (hf : P.funcs[fr.fn]? = some fn) (hm : fr.mode = .returning) (hc : kcs = [])

/-- A goroutine of such frames above this base. -/
def KState (P : Program) (K : FuncId → Bool) (base : List Frame) (g : Goroutine) : Prop := ∃ fr kcs, g = gor fr kcs base ∧ KSt P K fr kcs

section
variable {P : Program} {K : FuncId → Bool} {base : List Frame}

theorem fair_results (fn : Func) (tmps : Array Value) : Fair P (results fn tmps) := by
  unfold results
  refine fair_bind (fair_arrayMapM (fun r => ?_) _) fun _ => fair_ret _
  split
  · exact fair_ret _
  · exact fair_bind (fair_asAddr _) fun _ => fair_loadVar _ _

theorem kframe_finish {fr : Frame} (h : KFrame P K fr) (hm : fr.mode = .run) (v : Value) : KFrame P K (fr.finish v) ∧ (fr.finish v).mode = .run := by
  obtain ⟨f, tmps, todo, ds, m, kd, rd⟩ := fr
  obtain ⟨h1, h2, h3, h4, h5⟩ := h
  dsimp only at h1 h2 h3 h4 h5 hm
  subst h1 h2 h3 hm
  have same : KFrame P K ⟨f, tmps, todo, [], .run, .normal, none⟩ := ⟨rfl, rfl, rfl, h4, h5⟩
  cases todo with
  | nil => exact ⟨same, rfl⟩
  | cons it k =>
    have hi := h5 it (List.mem_cons_self ..)
    have hk : ∀ x ∈ k, okItem P K x = true := fun x hx => h5 x (List.mem_cons_of_mem _ hx)
    cases it <;> (first | (simp only [okItem, Bool.false_eq_true] at hi; done) | skip)
    case inRegion ops l =>
      cases l with
      | nil => exact ⟨same, rfl⟩
      | cons i l =>
        refine ⟨⟨rfl, rfl, rfl, h4, fun x hx => ?_⟩, rfl⟩
        rcases List.mem_cons.1 hx with rfl | hx
        · exact hi
        · exact hk x hx
    all_goals exact ⟨same, rfl⟩

theorem move_of (hS : P.follows .staticDataAhead = true) (hC : Closed P K) {fr : Frame} {kcs : List Frame} (h : KSt P K fr kcs) : MoveG P K fr kcs := by
  rcases kind_of hS hC h with ⟨fr', kcs', hk, hs⟩ | ⟨hs⟩ | ⟨t, ht, F, E, hE, ok, dead, halt⟩ | ⟨fn, hf, hm⟩
  · exact .ctl fr' kcs' hk hs
  · exact .lost hs
  · exact .tree t ht F E hE ok dead halt
  · obtain ⟨hfr, _, hall⟩ := h
    cases kcs with
    | nil => exact .stop fn hf hm rfl
    | cons c kcs =>
      obtain ⟨f, tmps, todo, ds, m, kd, rd⟩ := fr
      obtain ⟨k1, k2, k3, k4, k5⟩ := hfr
      dsimp only at k1 k2 k3 k4 k5 hm hf
      subst k1 k2 k3 hm
      obtain ⟨hcF, hcm⟩ := hall c (List.mem_cons_self ..)
      have hst : ∀ base w, stepG P true (gor ⟨f, tmps, todo, [], .returning, .normal, none⟩ (c :: kcs) base) w = unwind P true ⟨f, tmps, todo, [], .returning, .normal, none⟩ (c :: kcs ++ base) none w := by
        intro base w; unfold stepG gor; rfl
      refine .tree (results fn tmps) (fair_results fn tmps) (fun v => (c.finish v, kcs)) (fun es => seen P f es ++ #[]) (fun es e he => seen_sub (P := P) (fn := f) (by simpa using he)) (fun base w v w' es h => ?_) (fun base w x w' es hh hd => ?_) (fun base w x w' es hh hN => ?_)
      · refine ⟨(hst _ w).trans ?_, ?_⟩
        · unfold unwind
          simp only [hf, h]
          rfl
        · have := kframe_finish hcF hcm v
          exact ⟨this.1, .inl this.2, fun c hc => hall c (List.mem_cons_of_mem _ hc)⟩
      · cases x <;> exact ⟨_, _, _, (hst _ w).trans (by unfold unwind; simp only [hf, hh]; rfl)⟩
      · cases x <;> exact .inl ⟨_, _, _, (hst _ w).trans (by unfold unwind; simp only [hf, hh]; rfl)⟩

theorem KState.status {g : Goroutine} (h : KState P K base g) : g.status = .running := by obtain ⟨fr, kcs, rfl, _⟩ := h; rfl
theorem KState.dying {g : Goroutine} (h : KState P K base g) : g.dying = none := by obtain ⟨fr, kcs, rfl, _⟩ := h; rfl
theorem KState.frame {g : Goroutine} (h : KState P K base g) : KFrame P K g.frame := by obtain ⟨fr, kcs, rfl, k⟩ := h; exact k.frame
theorem KState.mode {g : Goroutine} (h : KState P K base g) : g.frame.mode = .run ∨ g.frame.mode = .returning := by obtain ⟨fr, kcs, rfl, k⟩ := h; exact k.mode
theorem KState.callers {g : Goroutine} (h : KState P K base g) : ∃ kcs, g.callers = kcs ++ base := by obtain ⟨fr, kcs, rfl, k⟩ := h; exact ⟨kcs, rfl⟩
end
end Go.Br

namespace Go.Br
open Go
set_option linter.unusedVariables false
set_option linter.unusedSimpArgs false

/-- The same world but for tape and count; the answers to come are the same. -/
structure Sh0 (w u : World) : Prop where
  heap : u.heap = w.heap
  os : u.os = w.os
  output : u.output = w.output
  tape : ∀ i q, u.tape (u.drawn + i) q = w.tape (w.drawn + i) q

inductive RS {α : Type} : Result α → Result α → Prop
  | ok (a : α) {w u : World} (h : Sh0 w u) : RS (.ok a w) (.ok a u)
  | halt {x y : Halt} {w u : World} (hx : x = y ∨ (Dead x ∧ Dead y)) (h : Sh0 w u) : RS (.halt x w) (.halt y u)

section
variable {α β : Type} {P : Program}

theorem Sh0.heapTo {w u : World} (h : Sh0 w u) (H : Array Obj) : Sh0 { w with heap := H } { u with heap := H } := ⟨rfl, h.os, h.output, h.tape⟩
theorem Sh0.drew {w u : World} (h : Sh0 w u) : Sh0 { w with drawn := w.drawn + 1 } { u with drawn := u.drawn + 1 } := ⟨h.heap, h.os, h.output, fun i q => by
  have := h.tape (i + 1) q
  rw [show u.drawn + (i + 1) = u.drawn + 1 + i by omega, show w.drawn + (i + 1) = w.drawn + 1 + i by omega] at this
  exact this⟩
theorem Sh0.ask {w : World} {α : Type} (a : Ask α) : ∀ {w u : World}, Sh0 w u → (u.ask a).1 = (w.ask a).1 ∧ Sh0 (w.ask a).2 (u.ask a).2 := by
  induction a with
  | done a => exact fun h => ⟨rfl, h⟩
  | ask what range k ih =>
    intro w u h
    unfold World.ask
    dsimp only
    split
    · exact ih _ h
    · have := h.tape 0 (Question.extern what range)
      simp only [Nat.add_zero] at this
      rw [this]
      exact ih _ h.drew
theorem Sh0.sys {w u : World} (h : Sh0 w u) (c : Sys) : (u.sys c).1 = (w.sys c).1 ∧ Sh0 (w.sys c).2 (u.sys c).2 := by
  have := Sh0.ask (w := w) (Kernel.perform c w.os) h
  unfold World.sys
  rw [h.os]
  obtain ⟨h1, h2⟩ := this
  cases hw : w.ask (Kernel.perform c w.os) with
  | mk r1 w1 =>
    cases hu : u.ask (Kernel.perform c w.os) with
    | mk r2 u1 =>
      rw [hw, hu] at h1 h2
      dsimp only at h1 h2
      subst h1
      obtain ⟨r, os⟩ := r2
      cases r <;> first | exact ⟨rfl, h⟩ | exact ⟨rfl, ⟨h2.heap, rfl, h2.output, h2.tape⟩⟩

theorem Sh0.cell {w u : World} (h : Sh0 w u) (a : Addr) : u.cell? a = w.cell? a := by unfold World.cell?; rw [h.heap]
theorem Sh0.noCell {w u : World} (h : Sh0 w u) (a : Addr) (s : String) : u.noCell a s = w.noCell a s := by unfold World.noCell; rw [h.heap]
theorem Sh0.farLoad {w u : World} (h : Sh0 w u) (a : Addr) (m : Bool) : u.farLoad P a m = w.farLoad P a m := by
  unfold World.farLoad
  rw [h.noCell, h.heap]
  cases w.heap[a.block]? with
  | none => rfl
  | some o => cases o <;> first | rfl | (dsimp only; rw [viewLoad_congr (w := w) (u := u) (by rw [h.heap])])
theorem Sh0.farStore {w u : World} (h : Sh0 w u) (a : Addr) (v : Value) (m : Bool) :
    (∃ H l, w.farStore P a v m = .ok ({ w with heap := H }, l) ∧ u.farStore P a v m = .ok ({ u with heap := H }, l)) ∨ ∃ x y, w.farStore P a v m = .error x ∧ u.farStore P a v m = .error y ∧ (x = y ∨ (Dead x ∧ Dead y)) := by
  unfold World.farStore
  rw [h.noCell, h.heap]
  split
  · rename_i at_ t hh
    cases hw : w.viewStore P at_ t a v m with
    | ok r =>
      obtain ⟨w1, l⟩ := r
      obtain ⟨o, _, rfl, hu, _⟩ := viewStore_congr (u := u) (by rw [h.heap]) hw
      rw [hu]
      exact .inl ⟨_, _, rfl, by rw [h.heap]⟩
    | error x =>
      cases hu : u.viewStore P at_ t a v m with
      | ok r =>
        obtain ⟨u1, l⟩ := r
        obtain ⟨o, _, rfl, hw', _⟩ := viewStore_congr (u := w) (by rw [h.heap]) hu
        rw [hw] at hw'; cases hw'
      | error y => exact .inr ⟨_, _, rfl, rfl, .inr ⟨.inr ⟨_, rfl⟩, .inr ⟨_, rfl⟩⟩⟩
  · exact .inr ⟨_, _, rfl, rfl, .inl rfl⟩

theorem shift (t : Sem α) : ∀ (w u : World) (es : Array Event), Sh0 w u → RS (t.runT P w es).1 (t.runT P u es).1 ∧ (t.runT P u es).2 = (t.runT P w es).2 := by
  induction t with
  | pure a => exact fun w u es h => ⟨.ok a h, rfl⟩
  | load m a k ih =>
    intro w u es h
    simp only [Sem.runT, h.cell, h.farLoad]
    cases w.cell? a with
    | some v => exact ih _ _ _ _ h
    | none =>
      dsimp only
      cases w.farLoad P a (m == .atomic) with
      | ok r => exact ih _ _ _ _ h
      | error x => exact ⟨.halt (.inl rfl) h, rfl⟩
  | store m a v k ih =>
    intro w u es h
    have main : ∀ {x y : Result _ × Array Event}, (x = (match w.cell? a with
      | some _ => if w.frozen? a then (.halt (.unsupported (.unsafePointer "a write to bytes that a string shares")) w, es)
        else k.runT P (w.setCell a v) (es.push ⟨.cell a, true, m == .atomic⟩)
      | none => match w.farStore P a v (m == .atomic) with
        | .ok (w, touched) => k.runT P w (es ++ touched.toArray.map (⟨.cell ·, true, m == .atomic⟩))
        | .error h => (.halt h w, es))) → (y = (match u.cell? a with
      | some _ => if u.frozen? a then (.halt (.unsupported (.unsafePointer "a write to bytes that a string shares")) u, es)
        else k.runT P (u.setCell a v) (es.push ⟨.cell a, true, m == .atomic⟩)
      | none => match u.farStore P a v (m == .atomic) with
        | .ok (w, touched) => k.runT P w (es ++ touched.toArray.map (⟨.cell ·, true, m == .atomic⟩))
        | .error h => (.halt h u, es))) → RS x.1 y.1 ∧ y.2 = x.2 := by
      rintro x y rfl rfl
      rw [h.cell, show u.frozen? a = w.frozen? a by unfold World.frozen?; rw [h.heap]]
      cases w.cell? a with
      | some v0 =>
        dsimp only
        cases w.frozen? a with
        | true => exact ⟨.halt (.inl rfl) h, rfl⟩
        | false => exact ih _ _ _ (by have := h.heapTo (w.setCell a v).heap; unfold World.setCell at this ⊢; rw [h.heap]; exact this)
      | none =>
        dsimp only
        rcases h.farStore (P := P) a v (m == .atomic) with ⟨H, l, e1, e2⟩ | ⟨x, y, e1, e2, hxy⟩
        · rw [e1, e2]; exact ih _ _ _ (h.heapTo H)
        · rw [e1, e2]; exact ⟨.halt hxy h, rfl⟩
    cases v <;> first | exact main rfl rfl | exact ⟨.halt (.inl rfl) h, rfl⟩
  | new o k ih =>
    intro w u es h
    simp only [Sem.runT, h.heap]
    exact ih _ _ _ _ (h.heapTo _)
  | shape r k ih =>
    intro w u es h
    simp only [Sem.runT]
    rw [show u.shape? r = w.shape? r by unfold World.shape?; rw [h.heap]]
    exact ih _ _ _ _ h
  | freeze a n k ih =>
    intro w u es h
    simp only [Sem.runT]
    refine ih _ _ _ ?_
    have := h.heapTo (w.freeze a n).heap
    unfold World.freeze at this ⊢
    split
    · exact h
    · rename_i hn
      rw [if_neg hn] at this
      rw [h.heap]; exact this
  | frozen a k ih =>
    intro w u es h
    simp only [Sem.runT]
    rw [show u.frozen? a = w.frozen? a by unfold World.frozen?; rw [h.heap]]
    exact ih _ _ _ _ h
  | getObj r k ih =>
    intro w u es h
    simp only [Sem.runT, h.heap]
    cases w.heap[r]? with
    | none => exact ⟨.halt (.inl rfl) h, rfl⟩
    | some o => cases o <;> first | exact ⟨.halt (.inl rfl) h, rfl⟩ | exact ih _ _ _ _ h
  | setObj r o k ih =>
    intro w u es h
    simp only [Sem.runT, h.heap]
    cases w.heap[r]? with
    | none => exact ⟨.halt (.inl rfl) h, rfl⟩
    | some o => cases o <;> first | exact ⟨.halt (.inl rfl) h, rfl⟩ | exact ih _ _ _ (h.heapTo _)
  | choose q k ih =>
    intro w u es h
    simp only [Sem.runT]
    split
    · exact ih _ _ _ _ h
    · have := h.tape 0 q
      simp only [Nat.add_zero] at this
      rw [this]
      exact ih _ _ _ _ h.drew
  | sys c k ih =>
    intro w u es h
    simp only [Sem.runT]
    obtain ⟨h1, h2⟩ := h.sys c
    rw [h1]
    exact ih _ _ _ _ h2
  | program k ih => exact fun w u es h => ih _ _ _ _ h
  | mark m k ih => exact fun w u es h => ih _ _ _ h
  | halt x => exact fun w u es h => ⟨.halt (.inl rfl) h, rfl⟩
end
end Go.Br

namespace Go.Br
open Go
set_option linter.unusedVariables false
set_option linter.unusedSimpArgs false

/-- The world at another tape and count. -/
def _root_.Go.World.on (w : World) (τ : Nat → Question → Nat) (d : Nat) : World := { w with tape := τ, drawn := d }

/-- The step to g1, w1, and what it is in a world that agrees. -/
structure Follow (P : Program) (g g1 : Goroutine) (w w1 : World) (es : Array Event) : Prop where
  step : stepG P true g w = .go g1 w1 es
  grew : Grew w w1
  other : ∀ Sh u, Rel Sh w u → Win w w1 u → ((∃ b, Sh b = true) ∧ ∃ o u' es', stepG P true g u = .ended o u' es') ∨
    ∃ u1, stepG P true g u = .go g1 u1 es ∧ Rel Sh w1 u1 ∧ u1.tape = u.tape ∧ u1.drawn = u.drawn + (w1.drawn - w.drawn) ∧ ∀ e ∈ es, OkEv Sh w1.heap.size e

/-- The step goes wrong: it ends the run, or the frame panics. -/
def Wrong (P : Program) (g : Goroutine) (w : World) : Prop := (∃ o w' es, stepG P true g w = .ended o w' es) ∨
  ∃ w' es chain, stepG P true g w = .go { frame := { g.frame with mode := .panicking chain }, callers := g.callers, status := .running, dying := none } w' es

section
variable {P : Program} {K : FuncId → Bool} {base : List Frame}

def worldOf {α : Type} : Result α → World
  | .ok _ w => w
  | .halt _ w => w

/-- Rows of cells stay rows, halt or not. -/
theorem run_rows {α : Type} (t : Sem α) : ∀ (w : World) (es : Array Event) (b : Nat), IsCells w b → IsCells (worldOf (t.runT P w es).1) b := by
  induction t with
  | pure a => exact fun w es b h => h
  | load m a k ih =>
    intro w es b h
    simp only [Sem.runT]
    split
    · exact ih _ _ _ _ h
    · split
      · exact ih _ _ _ _ h
      · exact h
  | store m a v k ih =>
    intro w es b h
    have main : ∀ {x : Result _ × Array Event}, x = (match w.cell? a with
      | some _ => if w.frozen? a then (.halt (.unsupported (.unsafePointer "a write to bytes that a string shares")) w, es)
        else k.runT P (w.setCell a v) (es.push ⟨.cell a, true, m == .atomic⟩)
      | none => match w.farStore P a v (m == .atomic) with
        | .ok (w, touched) => k.runT P w (es ++ touched.toArray.map (⟨.cell ·, true, m == .atomic⟩))
        | .error h => (.halt h w, es)) → IsCells (worldOf x.1) b := by
      rintro x rfl
      split
      · split
        · exact h
        · exact ih _ _ _ (grew_setCell.rows b h)
      · split
        · rename_i w1 l hs
          obtain ⟨b1, c1, e1, f1, rfl⟩ := farStore_size hs
          exact ih _ _ _ ((grew_put (.inl ⟨_, _, _, rfl⟩)).rows b h)
        · exact h
    cases v <;> first | exact main rfl | exact h
  | new o k ih => exact fun w es b h => ih _ _ _ _ (grew_push.rows b h)
  | shape r k ih => exact fun w es b h => ih _ _ _ _ h
  | freeze a n k ih => exact fun w es b h => ih _ _ _ (grew_freeze.rows b h)
  | frozen a k ih => exact fun w es b h => ih _ _ _ _ h
  | getObj r k ih =>
    intro w es b h
    simp only [Sem.runT]
    split
    · exact h
    · exact ih _ _ _ _ h
    · exact h
  | setObj r o k ih =>
    intro w es b h
    simp only [Sem.runT]
    split
    · exact h
    · rename_i o hno ho
      exact ih _ _ _ ((grew_put (.inr (not_cells ho hno))).rows b h)
    · exact h
  | choose q k ih =>
    intro w es b h
    simp only [Sem.runT]
    split
    · exact ih _ _ _ _ h
    · exact ih _ _ _ _ (grew_drew.rows b h)
  | sys c k ih => exact fun w es b h => ih _ _ _ _ ((sys_keeps w c).rows b h)
  | program k ih => exact fun w es b h => ih _ _ _ _ h
  | mark m k ih => exact fun w es b h => ih _ _ _ h
  | halt x => exact fun w es b h => h

/-- A step, whatever the base. -/
theorem step_all (hS : P.follows .staticDataAhead = true) (hC : Closed P K) {fr : Frame} {kcs : List Frame} (h : KSt P K fr kcs) :
    (fr.mode = .returning ∧ kcs = [] ∧ ∃ fn, P.funcs[fr.fn]? = some fn) ∨
    ∀ w, NP P w → ((∃ fr1 kcs1 w1 es, (∀ base, Follow P (gor fr kcs base) (gor fr1 kcs1 base) w w1 es) ∧ KSt P K fr1 kcs1) ∨ ∀ base, Wrong P (gor fr kcs base) w) ∧
      ((∃ base, Wrong P (gor fr kcs base) w) → ∀ u, Sh0 w u → NP P u → ∀ base, Wrong P (gor fr kcs base) u) := by
  rcases move_of hS hC h with ⟨fr', kcs', hk, hs⟩ | ⟨hs⟩ | ⟨t, ht, F, E, hE, ok, dead, halt⟩ | ⟨fn, hf, hm, hc⟩
  · refine .inr fun w hN => ⟨.inl ⟨fr', kcs', w, #[], fun base => ⟨hs base w, .refl _, fun Sh u hr win => .inr ⟨u, hs base u, hr, rfl, by simp, by simp⟩⟩, hk⟩, fun hw u hu _ base => ?_⟩
    obtain ⟨b, hw⟩ := hw
    exfalso
    rcases hw with ⟨o, w', es, e⟩ | ⟨w', es, chain, e⟩
    · rw [hs b w] at e; cases e
    · rw [hs b w] at e
      simp only [GStep.go.injEq] at e
      have := congrArg (fun g : Goroutine => g.frame.mode) e.1
      have hmm := hk.mode
      simp only [gor] at this
      rw [this] at hmm
      rcases hmm with hm | hm <;> cases hm
  · refine .inr fun w hN => ⟨.inr fun base => .inl ?_, fun _ u _ _ base => .inl ?_⟩
    · obtain ⟨o, e⟩ := hs base w; exact ⟨o, w, _, e⟩
    · obtain ⟨o, e⟩ := hs base u; exact ⟨o, u, _, e⟩
  · refine .inr fun w hN => ?_
    have npOf : ∀ w r es, t.runT P w #[] = (r, es) → NP P w → ∀ h w', r = .halt h w' → NP P w' := by
      rintro w r es e hN x w' rfl b hb
      have := run_rows (P := P) t w #[] b (hN b hb)
      rw [e] at this
      exact this
    cases hrun : t.runT P w #[] with
    | mk r es =>
      cases r with
      | ok a w1 =>
        have h2 := (ok [] w a w1 es hrun).2
        refine ⟨.inl ⟨(F a).1, (F a).2, w1, E es, fun base => ⟨(ok base w a w1 es hrun).1, (run_keeps _ _ _ _ _ _ hrun).1, fun Sh u hr win => ?_⟩, h2⟩, fun hw u hu _ base => ?_⟩
        · obtain ⟨_, k⟩ := ht.sim Sh w u #[] a w1 es hr hrun
          obtain ⟨Δ, he, alt⟩ := k win
          have he' : es = Δ := by simpa using he
          subst he'
          rcases alt #[] with ⟨hb, hh, u', fs', e, hd⟩ | ⟨u1, e, ag⟩
          · exact .inl ⟨hb, dead base u hh u' fs' e hd⟩
          · have e' : t.runT P u #[] = (.ok a u1, es) := by simpa using e
            exact .inr ⟨u1, (ok base u a u1 es e').1, ag.rel, ag.tapeU, ag.drawnU, fun x hx => ag.evs x (hE _ _ hx)⟩
        · exfalso
          obtain ⟨b, hw⟩ := hw
          have h1 := (ok b w a w1 es hrun).1
          rcases hw with ⟨o, w', es', e⟩ | ⟨w', es', chain, e⟩
          · rw [h1] at e; cases e
          · rw [h1] at e
            simp only [GStep.go.injEq] at e
            have := congrArg (fun g : Goroutine => g.frame.mode) e.1
            have hmm := h2.mode
            simp only [gor] at this
            rw [this] at hmm
            rcases hmm with hm | hm <;> cases hm
      | halt x w1 =>
        refine ⟨.inr fun base => ?_, fun hw u hu hNu base => ?_⟩
        · rcases halt base w x w1 es hrun (npOf w _ es hrun hN x w1 rfl) with ⟨o, w', es', e⟩ | ⟨es', chain, e⟩
          · exact .inl ⟨o, w', es', e⟩
          · exact .inr ⟨w1, es', chain, e⟩
        · obtain ⟨hrs, _⟩ := shift (P := P) t w u #[] hu
          rw [hrun] at hrs
          cases hu2 : t.runT P u #[] with
          | mk r2 es2 =>
            rw [hu2] at hrs
            dsimp only at hrs
            cases hrs with
            | halt hx h0 =>
              rcases halt base u _ _ es2 hu2 (npOf u _ es2 hu2 hNu _ _ rfl) with ⟨o, w', es', e⟩ | ⟨es', chain, e⟩
              · exact .inl ⟨o, w', es', e⟩
              · exact .inr ⟨_, es', chain, e⟩
  · exact .inl ⟨hm, hc, fn, hf⟩

theorem step_cases (hS : P.follows .staticDataAhead = true) (hC : Closed P K) {g : Goroutine} (h : KState P K base g) :
    (g.frame.mode = .returning ∧ g.callers = base ∧ ∃ fn, P.funcs[g.frame.fn]? = some fn) ∨
    ∀ w, NP P w → ((∃ g1 w1 es, Follow P g g1 w w1 es ∧ KState P K base g1) ∨ Wrong P g w) ∧ (Wrong P g w → ∀ u, Sh0 w u → NP P u → Wrong P g u) := by
  obtain ⟨fr, kcs, rfl, hk⟩ := h
  rcases step_all hS hC hk with ⟨h1, rfl, h3⟩ | hw
  · exact .inl ⟨h1, rfl, h3⟩
  · refine .inr fun w hN => ?_
    obtain ⟨alt, wr⟩ := hw w hN
    refine ⟨alt.imp (fun ⟨fr1, kcs1, w1, es, hf, hk1⟩ => ⟨_, w1, es, hf base, fr1, kcs1, rfl, hk1⟩) fun h => h base, fun hw u hu hN => wr ⟨base, hw⟩ u hu hN base⟩
end
end Go.Br

namespace Go.Br
open Go
set_option linter.unusedVariables false
set_option linter.unusedSimpArgs false

abbrev Tape := Nat → Question → Nat

section
variable {P : Program} {K : FuncId → Bool} {base : List Frame}

theorem Rel.on {Sh : Nat → Bool} {w u : World} (h : Rel Sh w u) (τ : Tape) (d : Nat) : Rel Sh (w.on τ d) u := ⟨h.os, h.output, h.size, h.same, h.shun⟩
theorem Rel.off {Sh : Nat → Bool} {w u : World} {τ : Tape} {d : Nat} (h : Rel Sh (w.on τ d) u) : Rel Sh w u := ⟨h.os, h.output, h.size, h.same, h.shun⟩
theorem rel_self (w : World) (τ : Tape) (d : Nat) : Rel (fun _ => false) w (w.on τ d) := ⟨rfl, rfl, rfl, fun _ _ => rfl, fun _ h => by cases h⟩
theorem rel_none {w u : World} (h : Rel (fun _ => false) w u) : u = w.on u.tape u.drawn := by
  obtain ⟨h1, h2, h3, h4, h5⟩ := h
  obtain ⟨uh, ut, ud, uo, up⟩ := u
  dsimp only at h1 h2 h3 h4
  subst h1 h2
  have : uh = w.heap := Array.ext_getElem? fun i => h4 i rfl
  subst this
  rfl

theorem follow_on {g g1 : Goroutine} {w w1 : World} {es : Array Event} {σ τ : Tape} {d C : Nat} (h : Follow P g g1 (w.on σ d) w1 es) (ha : ∀ i, i < w1.drawn - d → ∀ q, τ (C + i) q = σ (d + i) q) :
    Follow P g g1 (w.on τ C) (w1.on τ (C + (w1.drawn - d))) es := by
  have hd : d ≤ w1.drawn := h.grew.drawn
  obtain ⟨⟨b, hb⟩, _⟩ | ⟨u1, hs, hr, ht, hdr, _⟩ := h.other (fun _ => false) (w.on τ C) ((rel_self w τ C).on σ d) ha
  · cases hb
  have e : u1 = w1.on τ (C + (w1.drawn - d)) := by
    have := rel_none hr
    rw [ht, hdr] at this
    exact this
  subst e
  refine ⟨hs, ⟨rfl, by show C ≤ C + (w1.drawn - d); omega, h.grew.size, h.grew.rows⟩, fun Sh u hru win => ?_⟩
  have win' : Win (w.on σ d) w1 u := fun i hi q => by
    have := win i (by show i < C + (w1.drawn - d) - C; have : i < w1.drawn - d := hi; omega) q
    exact this.trans (ha i hi q)
  rcases h.other Sh u (hru.off.on σ d) win' with hl | ⟨u1, k1, k2, k3, k4, k5⟩
  · exact .inl hl
  · refine .inr ⟨u1, k1, k2.on _ _, k3, k4.trans ?_, k5⟩
    show u.drawn + (w1.drawn - d) = u.drawn + (C + (w1.drawn - d) - C)
    omega

/-- n steps, each to a state of the same functions. -/
inductive RunK (P : Program) (K : FuncId → Bool) (base : List Frame) : Nat → Goroutine → World → Goroutine → World → Prop
  | zero (g : Goroutine) (w : World) : RunK P K base 0 g w g w
  | succ {n : Nat} {g g1 g2 : Goroutine} {w w1 w2 : World} {es : Array Event} (h : Follow P g g1 w w1 es) (hk : KState P K base g1) (r : RunK P K base n g1 w1 g2 w2) : RunK P K base (n + 1) g w g2 w2

theorem RunK.snoc {n : Nat} {g g1 g2 : Goroutine} {w w1 w2 : World} {es : Array Event} (r : RunK P K base n g w g1 w1) (h : Follow P g1 g2 w1 w2 es) (hk : KState P K base g2) : RunK P K base (n + 1) g w g2 w2 := by
  induction r with
  | zero g w => exact .succ h hk (.zero _ _)
  | succ h' hk' r ih => exact .succ h' hk' (ih h)

theorem RunK.split {n m : Nat} {g a b : Goroutine} {w x y : World} (r : RunK P K base n g w a x) : RunK P K base m g w b y → n ≤ m → RunK P K base (m - n) a x b y := by
  induction r generalizing m with
  | zero g w => exact fun r _ => by simpa using r
  | succ h hk r ih =>
    intro r2 hle
    cases r2 with
    | zero => omega
    | succ h2 hk2 r2 =>
      have e := h.step.symm.trans h2.step
      simp only [GStep.go.injEq] at e
      obtain ⟨rfl, rfl, _⟩ := e
      have := ih r2 (by omega)
      rwa [show ∀ a b : Nat, a + 1 - (b + 1) = a - b from fun a b => by omega]

/-- It stands at the return to the base. -/
def AtStop (base : List Frame) (g : Goroutine) : Prop := g.frame.mode = .returning ∧ g.callers = base

theorem stop_no (hb : base ≠ []) {g g1 : Goroutine} {w w1 : World} {es : Array Event} (hk : KState P K base g) (hs : AtStop base g) (hf : ∃ fn, P.funcs[g.frame.fn]? = some fn) (h : Follow P g g1 w w1 es) : ¬ KState P K base g1 := by
  obtain ⟨fn, hf⟩ := hf
  obtain ⟨c, rest, rfl⟩ : ∃ c rest, base = c :: rest := by cases base with | nil => exact absurd rfl hb | cons c r => exact ⟨c, r, rfl⟩
  intro hk1
  obtain ⟨fr, kcs0, rfl, hst⟩ := hk
  obtain ⟨hm, hcs⟩ := hs
  have hz : kcs0 = [] := by
    have := congrArg List.length (show kcs0 ++ c :: rest = c :: rest from hcs)
    simp only [List.length_append] at this
    exact List.eq_nil_of_length_eq_zero (by omega)
  subst hz
  have hfr := hst.frame
  clear hst hcs
  simp only [gor] at hf hm
  obtain ⟨f, tmps, todo, ds, m, kd, rd⟩ := fr
  obtain ⟨k1, k2, k3, k4, k5⟩ := hfr
  dsimp only at k1 k2 k3 k4 k5 hm hf
  subst k1 k2 k3 hm
  have e := h.step
  unfold stepG unwind gor at e
  simp only [hf] at e
  obtain ⟨kcs, hkcs⟩ := hk1.callers
  have len := congrArg List.length hkcs
  cases hr : (results fn tmps).runT P w #[] with
  | mk r es2 =>
    rw [hr] at e
    cases r with
    | ok v w2 =>
      simp only [doReturn, List.nil_append, GStep.after, GStep.go.injEq] at e
      rw [← e.1] at len
      simp at len
      omega
    | halt x w2 => cases x <;> simp only [GStep.after, reduceCtorEq] at e
end
end Go.Br

namespace Go.Br
open Go
set_option linter.unusedVariables false
set_option linter.unusedSimpArgs false

/-- Whatever tape and count stand ahead of a step: it is made, lists no shunned place, and leads to such a walk again, until Q. -/
inductive Ends (P : Program) (Sh : Nat → Bool) (Q : Goroutine → World → Prop) : Goroutine → World → Prop
  | stop {g : Goroutine} {w : World} (h : ∀ τ d, Q g (w.on τ d)) : Ends P Sh Q g w
  | step {g : Goroutine} {w : World} (hr : g.status = .running) (G : Tape → Nat → Goroutine) (W : Tape → Nat → World) (E : Tape → Nat → Array Event)
      (h : ∀ (τ : Tape) (d : Nat), stepG P true g (w.on τ d) = .go (G τ d) (W τ d) (E τ d)) (hg : ∀ (τ : Tape) (d : Nat), Grew (w.on τ d) (W τ d))
      (he : ∀ (τ : Tape) (d : Nat), ∀ e ∈ E τ d, OkEv Sh (W τ d).heap.size e) (hn : ∀ (τ : Tape) (d : Nat), Ends P Sh Q (G τ d) (W τ d)) : Ends P Sh Q g w

section
variable {P : Program} {K : FuncId → Bool} {base : List Frame} {Sh : Nat → Bool} {Q : Goroutine → World → Prop} {g0 : Goroutine} {w0 u0 : World}

/-- A state that a walk reaches on a tape that is laid together from answers. -/
structure St (P : Program) (K : FuncId → Bool) (base : List Frame) (g0 : Goroutine) (w0 : World) where
  g : Goroutine
  w : World
  τ : Tape
  C : Nat
  n : Nat
  hk : KState P K base g
  hN : NP P w
  tr : ∀ τ' : Tape, (∀ i, i < C → ∀ q, τ' i q = τ i q) → RunK P K base n g0 (w0.on τ' 0) g (w.on τ' C)

/-- One step on. -/
theorem extend (s : St P K base g0 w0) {σ : Tape} {d : Nat} {g1 : Goroutine} {w1 : World} {es : Array Event} (h : Follow P s.g g1 (s.w.on σ d) w1 es) (hk : KState P K base g1) :
    ∃ s' : St P K base g0 w0, s'.g = g1 ∧ s'.w = w1 ∧ s'.n = s.n + 1 ∧ s.C ≤ s'.C ∧ ∀ i, i < s.C → ∀ q, s'.τ i q = s.τ i q := by
  refine ⟨⟨g1, w1, fun i q => if i < s.C then s.τ i q else σ (d + (i - s.C)) q, s.C + (w1.drawn - d), s.n + 1, hk, fun b hb => h.grew.rows b (s.hN b hb), fun τ' ha => ?_⟩, rfl, rfl, rfl, Nat.le_add_right _ _, fun i hi q => by dsimp only; rw [if_pos hi]⟩
  have r := s.tr τ' fun i hi q => by rw [ha i (by omega) q, if_pos hi]
  refine r.snoc (follow_on h fun i hi q => ?_) hk
  rw [ha (s.C + i) (by omega) q, if_neg (by omega), show s.C + i - s.C = i by omega]

/-- What is asked: on every tape the walk comes to its stop; in the emptied world too. -/
structure Asked (P : Program) (K : FuncId → Bool) (base : List Frame) (Sh : Nat → Bool) (Q QU : Goroutine → World → Prop) (g0 : Goroutine) (w0 u0 : World) : Prop where
  sd : P.follows .staticDataAhead = true
  closed : Closed P K
  hb : base ≠ []
  start : KState P K base g0
  np : NP P w0
  rel : Rel Sh w0 u0
  runs : ∀ τ : Tape, ∃ n g w, RunK P K base n g0 (w0.on τ 0) g w ∧ KState P K base g ∧ AtStop base g ∧ Q g w
  runsU : ∀ τ : Tape, ∃ n g w, RunK P K base n g0 (u0.on τ 0) g w ∧ KState P K base g ∧ AtStop base g ∧ QU g w
  draws : ∀ g w τ d, Q g w → Q g (w.on τ d)

variable {QU : Goroutine → World → Prop}

theorem stopFn (A : Asked P K base Sh Q QU g0 w0 u0) {g : Goroutine} (hk : KState P K base g) : ∃ fn, P.funcs[g.frame.fn]? = some fn := by
  obtain ⟨fn, c, h, _⟩ := A.closed _ hk.frame.fn
  exact ⟨fn, h⟩

/-- No step of the walk leaves a stop. -/
theorem no_on (A : Asked P K base Sh Q QU g0 w0 u0) {n : Nat} {g g2 : Goroutine} {w w2 : World} (hk : KState P K base g) (hs : AtStop base g) (r : RunK P K base n g w g2 w2) : n = 0 := by
  cases r with
  | zero => rfl
  | succ h hk1 r => exact absurd hk1 (stop_no A.hb hk hs (stopFn A hk) h)

/-- A state that is no stop: the walk goes on from it on every tape that agrees. -/
theorem goes_on (A : Asked P K base Sh Q QU g0 w0 u0) (s : St P K base g0 w0) (hns : ¬ AtStop base s.g) (τ' : Tape) (ha : ∀ i, i < s.C → ∀ q, τ' i q = s.τ i q) : ∃ g1 w1 es, Follow P s.g g1 (s.w.on τ' s.C) w1 es ∧ KState P K base g1 := by
  have r := s.tr τ' ha
  obtain ⟨m, g, w, rm, hkg, hsg, _⟩ := A.runs τ'
  rcases Nat.le_total s.n m with hle | hle
  · have r2 := r.split rm hle
    cases hmn : m - s.n with
    | zero =>
      rw [hmn] at r2
      cases r2
      exact absurd hsg hns
    | succ k =>
      rw [hmn] at r2
      cases r2 with
      | succ h hk r => exact ⟨_, _, _, h, hk⟩
  · have r2 := rm.split r hle
    have := no_on A hkg hsg r2
    rw [this] at r2
    cases r2
    exact absurd hsg hns

/-- The walk in the emptied world goes beside. -/
theorem beside (A : Asked P K base Sh Q QU g0 w0 u0) {n : Nat} {g g1 : Goroutine} {w w1 : World} (r : RunK P K base n g w g1 w1) : ∀ {u : World} {m : Nat} {gs : Goroutine} {us : World}, KState P K base g → Rel Sh w u → u.tape = w.tape → u.drawn = w.drawn → RunK P K base m g u gs us → KState P K base gs → AtStop base gs →
    ∃ u1 m1, Rel Sh w1 u1 ∧ u1.tape = w1.tape ∧ u1.drawn = w1.drawn ∧ RunK P K base m1 g1 u1 gs us := by
  induction r with
  | zero g w => exact fun hk hr ht hd ru _ _ => ⟨_, _, hr, ht, hd, ru⟩
  | succ h hk1 r ih =>
    intro u m gs us hk hr ht hd ru hks hss
    cases ru with
    | zero => exact absurd hk1 (stop_no A.hb hk hss (stopFn A hk) h)
    | succ hu hku ru =>
      rcases h.other Sh u hr (fun i hi q => by rw [ht, hd]) with ⟨_, o, u', es', e⟩ | ⟨u1, e, hr1, ht1, hd1, _⟩
      · have := hu.step.symm.trans e; cases this
      · have e2 := hu.step.symm.trans e
        simp only [GStep.go.injEq] at e2
        obtain ⟨rfl, rfl, _⟩ := e2
        have g1 := h.grew
        exact ih hk1 hr1 (by rw [ht1, ht, g1.tape]) (by have := g1.drawn; rw [hd1, hd]; omega) ru hks hss

/-- At a stop Q holds. -/
theorem at_stop (A : Asked P K base Sh Q QU g0 w0 u0) (s : St P K base g0 w0) (hs : AtStop base s.g) : Ends P Sh (fun g w => Q g w ∧ ∃ us, Rel Sh w us ∧ QU g us) s.g s.w := by
  have r := s.tr s.τ fun i hi q => rfl
  obtain ⟨m, g, w, rm, hkg, hsg, hQ⟩ := A.runs s.τ
  have key : g = s.g ∧ w = s.w.on s.τ s.C := by
    rcases Nat.le_total s.n m with hle | hle
    · have r2 := r.split rm hle
      have := no_on A s.hk hs r2
      rw [this] at r2
      cases r2
      exact ⟨rfl, rfl⟩
    · have r2 := rm.split r hle
      have := no_on A hkg hsg r2
      rw [this] at r2
      cases r2
      exact ⟨rfl, rfl⟩
  obtain ⟨rfl, rfl⟩ := key
  obtain ⟨mu, gs, us, ru, hks, hss, hqu⟩ := A.runsU s.τ
  obtain ⟨u1, m1, hr1, ht1, hd1, ru1⟩ := beside A r A.start (A.rel.on _ _ |> fun h => (⟨h.os, h.output, h.size, h.same, h.shun⟩ : Rel Sh (w0.on s.τ 0) (u0.on s.τ 0))) rfl rfl ru hks hss
  have hz := no_on A s.hk hs ru1
  rw [hz] at ru1
  cases ru1
  exact .stop fun τ d => ⟨A.draws _ (s.w.on s.τ s.C) τ d hQ, _, ⟨hr1.os, hr1.output, hr1.size, hr1.same, hr1.shun⟩, hqu⟩

/-- A step from a state that is no stop, whatever tape and count: made, and it lists no shunned place. -/
theorem step_ok (A : Asked P K base Sh Q QU g0 w0 u0) (s : St P K base g0 w0) (hns : ¬ AtStop base s.g) (σ : Tape) (d : Nat) : ∃ g1 w1 es, Follow P s.g g1 (s.w.on σ d) w1 es ∧ KState P K base g1 ∧ ∀ e ∈ es, OkEv Sh w1.heap.size e := by
  -- the tape: the state's below C, then sigma's from d on
  let τ' : Tape := fun i q => if i < s.C then s.τ i q else σ (d + (i - s.C)) q
  have ha : ∀ i, i < s.C → ∀ q, τ' i q = s.τ i q := fun i hi q => by simp only [τ', if_pos hi]
  obtain ⟨g2, w2, es2, hF, hk2⟩ := goes_on A s hns τ' ha
  have hsh : Sh0 (s.w.on σ d) (s.w.on τ' s.C) := ⟨rfl, rfl, rfl, fun i q => by
    show τ' (s.C + i) q = σ (d + i) q
    simp only [τ', if_neg (by omega : ¬ s.C + i < s.C), show s.C + i - s.C = i by omega]⟩
  rcases step_cases A.sd A.closed s.hk with ⟨h1, h2, _⟩ | hw
  · exact absurd ⟨h1, h2⟩ hns
  obtain ⟨alt, wr⟩ := hw (s.w.on σ d) s.hN
  rcases alt with ⟨g1, w1, es, hf, hk1⟩ | bad
  · refine ⟨g1, w1, es, hf, hk1, ?_⟩
    have r := s.tr τ' ha
    obtain ⟨m, gs, us, ru, hks, hss, _⟩ := A.runsU τ'
    obtain ⟨u1, m1, hr1, ht1, hd1, ru1⟩ := beside A r A.start (A.rel.on _ _ |> fun h => (⟨h.os, h.output, h.size, h.same, h.shun⟩ : Rel Sh (w0.on τ' 0) (u0.on τ' 0))) rfl rfl ru hks hss
    have win : Win (s.w.on σ d) w1 u1 := fun i hi q => by
      rw [ht1, hd1]
      exact hsh.tape i q
    rcases hf.other Sh u1 (hr1.off.on σ d) win with ⟨_, o, u', es', e⟩ | ⟨u2, _, _, _, _, hev⟩
    · cases ru1 with
      | zero => exact absurd hss hns
      | succ hu hku ru => have := hu.step.symm.trans e; cases this
    · exact hev
  · exfalso
    rcases wr bad (s.w.on τ' s.C) hsh s.hN with ⟨o, w', es', e⟩ | ⟨w', es', chain, e⟩
    · have := hF.step.symm.trans e; cases this
    · have := hF.step.symm.trans e
      simp only [GStep.go.injEq] at this
      rw [this.1] at hk2
      rcases hk2.mode with hm | hm <;> cases hm

open Classical in
/-- ████ The walk. -/
theorem ends_of (A : Asked P K base Sh Q QU g0 w0 u0) : Ends P Sh (fun g w => Q g w ∧ ∃ us, Rel Sh w us ∧ QU g us) g0 w0 := by
  refine Classical.byContradiction fun hbad => ?_
  -- a bad state has a bad state behind it
  have next : ∀ s : St P K base g0 w0, ¬ Ends P Sh (fun g w => Q g w ∧ ∃ us, Rel Sh w us ∧ QU g us) s.g s.w → ∃ s' : St P K base g0 w0, ¬ Ends P Sh (fun g w => Q g w ∧ ∃ us, Rel Sh w us ∧ QU g us) s'.g s'.w ∧ s'.n = s.n + 1 ∧ s.C ≤ s'.C ∧ ∀ i, i < s.C → ∀ q, s'.τ i q = s.τ i q := by
    intro s hs
    have hns : ¬ AtStop base s.g := fun h => hs (at_stop A s h)
    refine Classical.byContradiction fun hno => ?_
    have hno : ∀ s' : St P K base g0 w0, s'.n = s.n + 1 → s.C ≤ s'.C → (∀ i, i < s.C → ∀ q, s'.τ i q = s.τ i q) → Ends P Sh (fun g w => Q g w ∧ ∃ us, Rel Sh w us ∧ QU g us) s'.g s'.w := by
      intro s' h1 h2 h3
      refine Classical.byContradiction fun h4 => ?_
      exact hno ⟨s', h4, h1, h2, h3⟩
    have hst := fun σ d => step_ok A s hns σ d
    refine hs (.step s.hk.status (fun σ d => (hst σ d).choose) (fun σ d => (hst σ d).choose_spec.choose) (fun σ d => (hst σ d).choose_spec.choose_spec.choose) (fun σ d => ?_) (fun σ d => ?_) (fun σ d => ?_) (fun σ d => ?_))
    · exact (hst σ d).choose_spec.choose_spec.choose_spec.1.step
    · exact (hst σ d).choose_spec.choose_spec.choose_spec.1.grew
    · exact (hst σ d).choose_spec.choose_spec.choose_spec.2.2
    · obtain ⟨s', e1, e2, e3, e4, e5⟩ := extend s (hst σ d).choose_spec.choose_spec.choose_spec.1 (hst σ d).choose_spec.choose_spec.choose_spec.2.1
      have := hno s' e3 e4 e5
      rw [e1, e2] at this
      exact this
  let s0 : St P K base g0 w0 := ⟨g0, w0, fun _ _ => 0, 0, 0, A.start, A.np, fun τ' _ => .zero _ _⟩
  let S : Nat → { s : St P K base g0 w0 // ¬ Ends P Sh (fun g w => Q g w ∧ ∃ us, Rel Sh w us ∧ QU g us) s.g s.w } := fun n => Nat.rec ⟨s0, hbad⟩ (fun _ s => ⟨(next s.1 s.2).choose, (next s.1 s.2).choose_spec.1⟩) n
  have hS : ∀ n, (S (n + 1)).1.n = (S n).1.n + 1 ∧ (S n).1.C ≤ (S (n + 1)).1.C ∧ ∀ i, i < (S n).1.C → ∀ q, (S (n + 1)).1.τ i q = (S n).1.τ i q := fun n => (next (S n).1 (S n).2).choose_spec.2
  have hn : ∀ n, (S n).1.n = n := by
    intro n
    induction n with
    | zero => rfl
    | succ n ih => rw [(hS n).1, ih]
  have hmono : ∀ n k, (S n).1.C ≤ (S (n + k)).1.C ∧ ∀ i, i < (S n).1.C → ∀ q, (S (n + k)).1.τ i q = (S n).1.τ i q := by
    intro n k
    induction k with
    | zero => exact ⟨Nat.le_refl _, fun _ _ _ => rfl⟩
    | succ k ih =>
      obtain ⟨h1, h2, h3⟩ := hS (n + k)
      exact ⟨Nat.le_trans ih.1 h2, fun i hi q => (h3 i (Nat.lt_of_lt_of_le hi ih.1) q).trans (ih.2 i hi q)⟩
  -- the limit tape
  let T : Tape := fun i q => if h : ∃ n, i < (S n).1.C then (S h.choose).1.τ i q else 0
  have hT : ∀ n i, i < (S n).1.C → ∀ q, T i q = (S n).1.τ i q := by
    intro n i hi q
    have hex : ∃ n, i < (S n).1.C := ⟨n, hi⟩
    show (if h : ∃ n, i < (S n).1.C then (S h.choose).1.τ i q else 0) = _
    rw [dif_pos hex]
    have hc := hex.choose_spec
    rcases Nat.le_total hex.choose n with hle | hle
    · obtain ⟨k, hk⟩ := Nat.exists_eq_add_of_le hle
      have := (hmono hex.choose k).2 i hc q
      rw [← hk] at this
      exact this.symm
    · obtain ⟨k, hk⟩ := Nat.exists_eq_add_of_le hle
      have := (hmono n k).2 i hi q
      rw [← hk] at this
      exact this
  obtain ⟨m, g, w, rm, hkg, hsg, hQ⟩ := A.runs T
  have r := (S (m + 1)).1.tr T (fun i hi q => hT (m + 1) i hi q)
  have r2 := rm.split r (Nat.le_trans (Nat.le_succ m) (Nat.le_of_eq (hn (m + 1)).symm))
  have z := no_on A hkg hsg r2
  exact absurd (Nat.le_of_sub_eq_zero z) (Nat.not_le_of_lt (Nat.lt_of_lt_of_le (Nat.lt_succ_self m) (Nat.le_of_eq (hn (m + 1)).symm)))
end
end Go.Br
