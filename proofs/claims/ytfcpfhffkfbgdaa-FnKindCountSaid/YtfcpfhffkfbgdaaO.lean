/-
  Contracts of the program's madeOfTwo, RelEither, RelBoth, below and RelBelow, and of the model's l1Below and RelBelow; for lists of at most 2^20 numbers.
-/
import Derived.Test.YtfcpfhffkfbgdaaN
namespace Go.Proofs.Ytfcpfhffkfbgdaa
open Go.RowKit

theorem madeOfTwo_no (f : Value) (ao bo : Option Addr) (ca cb : Nat) (xs ys : List Int) (w : World) (hl : xs.length ≤ 1048576) (hl2 : ys.length ≤ 1048576) (hx : Rd w ao xs) (hy : Rd w bo ys) (hp : twoIn xs ys = false) :
    Calls Try.prog 67 #[.slice ao xs.length ca, .slice bo ys.length cb, f] w (Gave w [] false) := by
  have HP := Lib.hid hp
  clear hp
  go_enter Try.func67, Try.ntmps67
  go_wp2_with (go_at_call 69; refine (two_no _ _ _ _ _ _ _ hl hl2 hx hy HP.out).mono ?_; rintro e w1 ⟨rfl, hb⟩)
  go_ret2
  exact ⟨.slice none 0 0, rfl, World.ownsRow_nil _ _ _ _, (hb.alloc hb.size _).alloc (by have := hb.size; simp; omega) _⟩

theorem madeOfTwo_yes (g : FuncId) (hcf : ∀ args w, Sem.run Try.prog (callFunc g args) w = .ok (.enter g args) w) (m : List Int → List Int → List Int) (ao bo : Option Addr) (ca cb : Nat) (xs ys : List Int) (w : World) (hx : Rd w ao xs) (hy : Rd w bo ys)
    (hp : twoIn xs ys = true) (hm : (m xs ys).length = xs.length)
    (hg : ∀ w, Calls Try.prog g #[relOf xs, relOf ys] w fun e w' => e = .returned (relOf (m xs ys)) ∧ Below w.heap.size w w') :
    Calls Try.prog 67 #[.slice ao xs.length ca, .slice bo ys.length cb, .func (.func g) #[] #[]] w (Gave w (m xs ys) true) := by
  obtain ⟨h1, h2, h3⟩ := twoIn_yes hp
  have h4 := (relIn_len h1).2
  have HP := Lib.hid h1
  have HQ := Lib.hid h2
  have HN := Lib.hid h3
  have HM := Lib.hid hm
  have HG := Lib.hid hg
  clear hp hm hg h1 h2 h3
  go_enter Try.func67, Try.ntmps67
  go_wp2_with fail
  refine (two_yes _ _ _ _ _ _ _ hx hy HP.out HQ.out HN.out).mono ?_
  rintro e w1 ⟨rfl, hb⟩
  have x1 := (RelAt.new w1 xs).alloc (.cells #[.int .i64 ys.length, .int .i64 (rowAt ys 0), .int .i64 (rowAt ys 1), .int .i64 (rowAt ys 2), .int .i64 (rowAt ys 3)] 44)
  have p0 := x1.cell0
  have p1 := x1.cell1
  have p2 := x1.cell2
  have p3 := x1.cell3
  have p4 := x1.cell4
  clear x1
  go_wp2_with fail
  refine (HG.out _).mono ?_
  clear p0 p1 p2 p3 p4
  rintro e w2 ⟨rfl, hb2⟩
  go_wp2_with fail
  refine (list_any (m xs ys) w2 (by rw [HM.out]; exact h4)).mono ?_
  rintro e w3 ⟨v, rfl, ho, hb3⟩
  go_wp2
  go_ret2
  have h12 : Below w.heap.size w w2 := ((hb.alloc hb.size _).alloc (by have := hb.size; simp; omega) _).trans (hb2.mono (by have := hb.size; simp; omega))
  exact ⟨v, rfl, own_mono ho h12.size, h12.trans (hb3.mono h12.size)⟩

theorem cf_either (args : Array Value) (w : World) : Sem.run Try.prog (callFunc 105 args) w = .ok (.enter 105 args) w := by kernel_rfl

theorem cf_both (args : Array Value) (w : World) : Sem.run Try.prog (callFunc 93 args) w = .ok (.enter 93 args) w := by kernel_rfl

/-- each row of the first one is a part of the second one's -/
def belowB (xs ys : List Int) : Bool := (zipI (bits .andNot .i64) xs ys).all (fun x => x == 0)

set_option maxHeartbeats 1000000 in
theorem l1Below_any (ao bo : Option Addr) (ca cb : Nat) (xs ys : List Int) (w : World) (h4 : xs.length ≤ 4) (hn : xs.length = ys.length) (hx : Rd w ao xs) (hy : Rd w bo ys) :
    Calls Try.prog 98 #[.slice ao xs.length ca, .slice bo ys.length cb] w fun e w' => e = .returned (.bool (belowB xs ys)) ∧ Dn w w' := by
  have HN := Lib.hid hn
  clear hn
  go_enter Try.func98, Try.ntmps98
  go_wp2
  go_loopw [5] (fun i wr => ∃ k : Nat, k ≤ xs.length ∧ i = .int .i64 k ∧ ((zipI (bits .andNot .i64) xs ys).take k).all (fun x => x == 0) = true ∧ Dn w wr)
    (fun i _ => xs.length - (intOf i).toNat)
  case atStart => exact ⟨0, Nat.zero_le _, rfl, rfl, Dn.refl _⟩
  case round =>
    obtain ⟨k, hk, rfl, ht, hd⟩ := hrel
    have HT := Lib.hid ht
    clear ht
    by_cases hlt : k < xs.length
    · have hlt2 : k < ys.length := by rw [← HN.out]; exact hlt
      obtain ⟨b, off, x, hxk, rfl, hbl, hc1⟩ := (hd.rd hx).get k hlt
      obtain ⟨b2, off2, y, hyk, rfl, hbl2, hc2⟩ := (hd.rd hy).get k hlt2
      have hi1 : ((k : Nat) : Int) < (xs.length : Int) := by omega
      have hi2 : ((k : Nat) : Int) < (ys.length : Int) := by omega
      have HX := Lib.hid hxk
      have HY := Lib.hid hyk
      clear hx hy hxk hyk
      go_wp2
      go_quiet (fail)
      obtain ⟨z, hz⟩ : ∃ z, bits .andNot .i64 x y = z := ⟨_, rfl⟩
      rw [hz]
      have HZ := Lib.hid hz
      clear hz
      have hzk : (zipI (bits .andNot .i64) xs ys)[k]? = some z := by unfold zipI; rw [List.getElem?_zipWith, HX.out, HY.out, ← HZ.out]
      have HK := Lib.hid hzk
      clear hzk
      by_cases he : z = 0
      · have h2 : (z != 0) = false := by simp [he]
        have HE := Lib.hid he
        clear he
        go_wp2
        go_roundw
        case rel => exact ⟨k + 1, by omega, by go_num, by rw [List.take_add_one, HK.out]; simp [HT.out, HE.out], hd.trans (Dn.drewN _ _)⟩
        case measure => simp [intOf]; omega
      · have h2 : (z != 0) = true := by simp [he]
        go_wp2
        go_ret
        refine ⟨?_, hd.trans (Dn.drewN _ _)⟩
        have hf : belowB xs ys = false := by
          unfold belowB
          rw [List.all_eq_false]
          exact ⟨z, List.mem_of_getElem? HK.out, by simp [he]⟩
        rw [hf]
        rfl
    · go_wp2
      go_ret
      obtain rfl : k = xs.length := by omega
      have ht := HT.out
      rw [List.take_of_length_le (by unfold zipI; simp; omega)] at ht
      exact ⟨by unfold belowB; rw [ht]; rfl, hd⟩

end Go.Proofs.Ytfcpfhffkfbgdaa
