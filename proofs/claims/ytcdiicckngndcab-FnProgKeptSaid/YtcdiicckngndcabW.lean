/-
  Contracts of the model's l1Turned and RelTurned, and of the program's RelTurned; for lists of at most 2^20 numbers.
-/
import Derived.Test.YtcdiicckngndcabV
namespace Go.Proofs.Ytcdiicckngndcab
open Go.RowKit

theorem or16 : ∀ z : Fin 16, ∀ i : Fin 4, ∃ y : Fin 16, bits .or .i64 (z.val : Int) (pt i.val) = (y.val : Int) := by decide +kernel
theorem turn16 (n : Nat) (h4 : n ≤ 4) (pre : List (Fin n × Fin n)) : ∀ i, ∃ z : Fin 16, rowAt (turnAcc n pre) i = (z.val : Int) := by
  have h : ∀ (l : List (Fin n × Fin n)) (zs : List Int), zs.length = n → (∀ i, ∃ z : Fin 16, rowAt zs i = (z.val : Int)) → ∀ i, ∃ z : Fin 16, rowAt (l.foldl (fun zs p => addPair zs p.2.val p.1.val) zs) i = (z.val : Int) := by
    intro l
    induction l with
    | nil => intro zs _ hz; exact hz
    | cons p r ih =>
      intro zs hl hz
      rw [List.foldl_cons]
      refine ih _ (by rw [addPair_len, hl]) ?_
      intro i
      rw [addPair_at zs p.2.val p.1.val i (by rw [hl]; exact p.2.isLt)]
      by_cases e : i = p.2.val
      · rw [if_pos e]
        obtain ⟨z, hz2⟩ := hz p.2.val
        rw [hz2]
        exact or16 z ⟨p.1.val, by have := p.1.isLt; omega⟩
      · rw [if_neg e]
        exact hz i
  refine h pre _ (by simp) ?_
  intro i
  refine ⟨0, ?_⟩
  unfold rowAt
  rw [List.getD_eq_getElem?_getD, List.getElem?_replicate]
  split <;> rfl

theorem bitStep : ∀ z y : Fin 16, ∀ i j : Fin 4, bits .or .i64 (z.val : Int) (wrap64 (bits .and .i64 ((y.val : Int) / 2 ^ j.val) 1 * 2 ^ i.val)) = if hasB (y.val : Int) j.val then bits .or .i64 (z.val : Int) (pt i.val) else (z.val : Int) := by decide +kernel

theorem set_same (zs : List Int) (j : Nat) : zs.set j (rowAt zs j) = zs := by
  apply List.ext_getElem?
  intro k
  rw [List.getElem?_set]
  by_cases e : j = k
  · subst e
    rw [if_pos rfl]
    by_cases h : j < zs.length
    · rw [if_pos h, rowAt_get h]
    · rw [if_neg h, List.getElem?_eq_none (by omega)]
  · rw [if_neg e]

theorem turn_step (xs : List Int) (h4 : xs.length ≤ 4) (i j : Nat) (hi : i < xs.length) (hj : j < xs.length) :
    turnAcc xs.length (pairsTo xs.length xs (i * xs.length + (j + 1))) =
      (turnAcc xs.length (pairsTo xs.length xs (i * xs.length + j))).set j (if hasB (rowAt xs i) j then bits .or .i64 (rowAt (turnAcc xs.length (pairsTo xs.length xs (i * xs.length + j))) j) (pt i) else rowAt (turnAcc xs.length (pairsTo xs.length xs (i * xs.length + j))) j) := by
  have hst := pairsTo_step xs.length h4 xs ⟨i, hi⟩ ⟨j, hj⟩
  rw [← Nat.add_assoc, hst]
  by_cases hb : hasB (rowAt xs i) j = true
  · rw [if_pos hb, if_pos hb, turnAcc_snoc]
    rfl
  · rw [if_neg hb, if_neg hb, List.append_nil, set_same]

set_option maxHeartbeats 4000000 in
theorem l1Turned_any (ao : Option Addr) (cap : Nat) (xs : List Int) (w : World) (hp : relIn xs = true) (hx : Rd w ao xs) :
    Calls Try.prog 56 #[.slice ao xs.length cap] w fun e w' => ∃ v, e = .returned v ∧
      w'.ownsRow w.heap.size 3 1 v xs.length ((turnAcc xs.length (pairsOf xs)).map (Value.int .i64)) ∧ Below w.heap.size w w' := by
  obtain ⟨i0, hi, hz0, hz1, hz2⟩ := info_parts Try.info3
  have h4 := (relIn_len hp).2
  have HP := Lib.hid hp
  clear hp
  go_enter Try.func56, Try.ntmps56
  go_wp2_with (at_make; refine wpList_make_full _ rfl _ _ 23 rfl w.heap.size 3 i0 (.int .i64 0) 1 Try.underlying23 hi hz0 hz1 _ _ _ _ xs.length rfl rfl rfl rfl ?c1 ?c2 ?c3 ?_)
  case c1 => rw [hz2]; omega
  case c2 => unfold maxLen; omega
  case c3 => exact Nat.le_refl _
  intro w1 hown hgrow
  have hB : Below w.heap.size w w1 := (Below.refl _ _).grown hgrow (Nat.le_refl _) (by simp)
  rw [toList_madeCells_one] at hown
  have hown0 : w1.ownsRow w.heap.size 3 1 (.slice (some ⟨w.heap.size, 0, none⟩) xs.length xs.length) xs.length ((turnAcc xs.length (pairsTo xs.length xs 0)).map (Value.int .i64)) := by
    have : pairsTo xs.length xs 0 = [] := by simp [pairsTo]
    rw [this]
    simpa [turnAcc] using hown
  clear hgrow hown
  go_wp2
  go_loopw [4, 5] (fun i _ wr => ∃ k : Nat, k ≤ xs.length ∧ i = .int .i64 k ∧ wr.ownsRow w.heap.size 3 1 (.slice (some ⟨w.heap.size, 0, none⟩) xs.length xs.length) xs.length ((turnAcc xs.length (pairsTo xs.length xs (k * xs.length))).map (Value.int .i64)) ∧ Below w.heap.size w wr)
    (fun i _ _ => xs.length - (intOf i).toNat)
  case atStart => exact ⟨0, Nat.zero_le _, rfl, by rw [Nat.zero_mul]; exact hown0, hB⟩
  case round =>
    clear hown0 hB
    obtain ⟨i, hi2, rfl, ho, hB⟩ := hrel
    obtain ⟨wo, rfl⟩ : ∃ wo : World, wo = wr := ⟨_, rfl⟩
    by_cases hlt : i < xs.length
    · go_wp2
      go_loopw [5] (fun j wr => ∃ k : Nat, k ≤ xs.length ∧ j = .int .i64 k ∧ wr.ownsRow w.heap.size 3 1 (.slice (some ⟨w.heap.size, 0, none⟩) xs.length xs.length) xs.length ((turnAcc xs.length (pairsTo xs.length xs (i * xs.length + k))).map (Value.int .i64)) ∧ Below w.heap.size w wr)
        (fun j _ => xs.length - (intOf j).toNat)
      case atStart => exact ⟨0, Nat.zero_le _, rfl, ho, hB⟩
      case round =>
        clear ho hB
        obtain ⟨j, hj, rfl, ho, hB⟩ := hrel
        by_cases hlj : j < xs.length
        · obtain ⟨b, off, x, hxk, rfl, hbl, hc1⟩ := (hx.below hB).get i hlt
          obtain ⟨y, hy⟩ := row16 HP.out i
          obtain ⟨z, hz⟩ := turn16 xs.length h4 (pairsTo xs.length xs (i * xs.length + j)) j
          have hxy : x = (y.val : Int) := by
            have := rowAt_get hlt
            rw [hxk, hy] at this
            simpa using this
          rw [hxy] at hc1
          have hc2 := ho.cellAt j (by omega)
          have hf2 := ho.frozenAt j
          have hzk : ((turnAcc xs.length (pairsTo xs.length xs (i * xs.length + j))).map (Value.int .i64))[j]? = some (.int .i64 (z.val : Int)) := by
            rw [List.getElem?_map, rowAt_get (by rw [turnAcc_len]; exact hlj), hz]
            rfl
          rw [hzk] at hc2
          have hi1 : ((i : Nat) : Int) < (xs.length : Int) := by omega
          have hj1 : ((j : Nat) : Int) < (xs.length : Int) := by omega
          have hst := pairsTo_step xs.length h4 xs ⟨i, hlt⟩ ⟨j, hlj⟩
          have HST := Lib.hid (And.intro hst (And.intro hy hz))
          clear hx hxk hxy hy hz hzk hst
          go_wp2
          go_region
          all_goals
            go_wp2
            go_roundw
            case rel =>
              refine ⟨j + 1, by omega, by go_num, ?_, hB.drew.setCell (Nat.le_refl _) _⟩
              have h := (ho.stored j (.int .i64 (bits .or .i64 (z.val : Int) (wrap64 (bits .and .i64 ((y.val : Int) / 2 ^ j) 1 * 2 ^ i))))).1
              have hl : ((turnAcc xs.length (pairsTo xs.length xs (i * xs.length + j))).map (Value.int .i64)).set j (.int .i64 (bits .or .i64 (z.val : Int) (wrap64 (bits .and .i64 ((y.val : Int) / 2 ^ j) 1 * 2 ^ i)))) = (turnAcc xs.length (pairsTo xs.length xs (i * xs.length + (j + 1)))).map (Value.int .i64) := by
                rw [← List.map_set, turn_step xs h4 i j hlt hlj, HST.out.2.1, HST.out.2.2]
                rw [bitStep z y ⟨i, by omega⟩ ⟨j, by omega⟩]
              rw [hl] at h
              exact h.drew
            case measure => simp [intOf]; omega
        · obtain rfl : j = xs.length := by omega
          go_wp2
          go_roundw
          case rel => exact ⟨i + 1, by omega, by go_num, by rw [Nat.succ_mul]; exact ho, hB⟩
          case measure => simp [intOf]; omega
    · obtain rfl : i = xs.length := by omega
      go_wp2
      go_ret
      exact ⟨_, rfl, ho, hB⟩

/-- a relation turned -/
def turnL (xs : List Int) : List Int := turnAcc xs.length (pairsOf xs)
theorem turnL_len (xs : List Int) : (turnL xs).length = xs.length := turnAcc_len _ _

theorem turned_any (xs : List Int) (w : World) (h1 : 1 ≤ xs.length) (h4 : xs.length ≤ 4) :
    Calls Try.prog 50 #[relOf xs] w fun e w' => e = .returned (relOf (turnL xs)) ∧ Below w.heap.size w w' :=
  callsIn_wide.1 (turned_in xs w h1 h4)

theorem cf_turned (args : Array Value) (w : World) : Sem.run Try.prog (callFunc 50 args) w = .ok (.enter 50 args) w := by kernel_rfl

theorem implRelTurned_any (ao : Option Addr) (ca : Nat) (xs : List Int) (w : World) (hl : xs.length ≤ 1048576) (hx : Rd w ao xs) :
    Calls Try.prog 15 #[.slice ao xs.length ca] w (Gave w (ifR (relIn xs) (turnL xs)) (relIn xs)) := by
  cases hp : relIn xs with
  | false =>
    have h1 := Lib.hid (madeOfOne_no (.func (.func 50) #[] #[]) ao ca xs w hl hx hp)
    clear hp
    go_enter Try.func15, Try.ntmps15
    go_wp2_with (go_at_call 49; refine h1.out.mono ?_; rintro e w1 ⟨v, rfl, ho, hb⟩)
    go_ret2
    exact ⟨v, rfl, ho, hb⟩
  | true =>
    have h4 := relIn_len hp
    have h1 := Lib.hid (madeOfOne_yes 50 cf_turned turnL ao ca xs w hx hp (turnL_len xs) (fun w => turned_any xs w h4.1 h4.2))
    clear hp
    go_enter Try.func15, Try.ntmps15
    go_wp2_with (go_at_call 49; refine h1.out.mono ?_; rintro e w1 ⟨v, rfl, ho, hb⟩)
    go_ret2
    exact ⟨v, rfl, ho, hb⟩
end Go.Proofs.Ytcdiicckngndcab
