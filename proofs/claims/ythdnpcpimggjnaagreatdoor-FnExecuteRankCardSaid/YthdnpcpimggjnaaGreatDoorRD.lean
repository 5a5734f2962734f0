/-
  Draws with a relation and a set, a number or points: l91Set, DrawCompPower, DrawCompFar, and the draws made of l91Some and l91Set.
-/
import Derived.Test.YthdnpcpimggjnaaGreatDoorVL
import Derived.Test.YthdnpcpimggjnaaGreatDoorRC
import Derived.Test.YthdnpcpimggjnaaGreatDoorQS
import Derived.Test.YthdnpcpimggjnaaGreatDoorHB
import Derived.Test.YthdnpcpimggjnaaGreatDoorDI
import Derived.Deep.RegionHeldLaw
namespace Go.Proofs.YthdnpcpimggjnaaGreatDoor
open Go.RowKit

set_option maxHeartbeats 1000000 in
theorem cmd_rank (w0 : World) (bw b1 b2 : Nat) (xs : List Int) (k : Nat) (hx : relIn xs = true) (hk : k ≤ (fullL xs).length ∧ LeastC xs.length (fullL xs) xs k) (hk100 : k < 100) (hl : xs.length ≤ 1048576) : CmdW w0 bw b1 b2 71 [] xs xs (dig k) := by
  intro w hB
  obtain ⟨ao, c, hc, r⟩ := hB.rd
  have hK := implRectRank_any ao c xs k w (fun _ => hk) hl r
  rw [hx, show rkI true k = (k : Int) from rfl] at hK
  have hT := fun w => numberText_any k hk100 w
  obtain ⟨d, hd⟩ : ∃ d, baOf (dig k) = d := ⟨_, rfl⟩
  rw [hd] at hT ⊢
  have HK := Lib.hid (And.intro hK (And.intro hB hT))
  clear hK hB r hx hk hT hd
  go_enter Tryz.func71, Tryz.ntmps71
  go_wp2_with (go_at_call 13; refine HK.out.1.mono ?_; rintro e w1 ⟨rfl, hb1⟩)
  have HB1 := Lib.hid hb1
  clear hb1
  go_wp2_with fail
  refine (HK.out.2.2 _).mono ?_
  rintro e w2 ⟨rfl, rfl⟩
  go_wp2
  go_ret
  exact ⟨rfl, HK.out.2.1.below HB1.out, Below.grownAny HB1.out _⟩
theorem ans_rank (xs : List Int) (k : Nat) (hx : relIn xs = true) (hk : k ≤ (fullL xs).length ∧ LeastC xs.length (fullL xs) xs k) (hk100 : k < 100) : Answers rankW xs xs (dig k) := fun w0 w bw b1 b2 hB =>
  answerTo_alone w0 w bw b1 b2 _ xs _ rankW _ hB (by decide) find_rank cfw_rank (by rw [ba_size]; simp [rankW]) (cmd_rank w0 bw b1 b2 xs k hx hk hk100 (by have := (Rl.of hx).four; omega))

def rankSt (a : List Int) : Nat → List Int
  | 0 => [0, 0, 0]
  | 1 => a
  | 2 => a
  | _ => turnL a
def rankAn (k : Nat) : Nat → List UInt8
  | 1 => dig k
  | _ => [111, 107]
theorem exec_rank (ns : List Nat) (k n : Nat) (w : World) (hm : MaxAt w) (hlow : 0 < w.heap.size) (h0 : ns ≠ []) (hlt : ∀ n ∈ ns, n < 100) (hl : ns.length ≤ 4)
    (hr : relIn (ns.map fun (n : Nat) => (n : Int)) = true) (hk : k ≤ (fullL (ns.map fun (n : Nat) => (n : Int))).length ∧ LeastC (ns.map fun (n : Nat) => (n : Int)).length (fullL (ns.map fun (n : Nat) => (n : Int))) (ns.map fun (n : Nat) => (n : Int)) k) (hk100 : k < 100)
    (hn : sizeL (ns.map fun (n : Nat) => (n : Int)) = n) (hn100 : n < 100) :
    Calls Tryz.prog 9 #[.string (⟨#[114, 111, 119, 115, 32]⟩ ++ baOf (joinC 32 (ns.map dig)) ++ ⟨#[10, 114, 97, 110, 107, 10, 116, 117, 114, 110, 101, 100, 10]⟩)] w fun e w' =>
      e = .returned (.string (⟨#[111, 107, 10]⟩ ++ baOf (dig k) ++ ⟨#[10, 111, 107, 10, 112, 97, 105, 114, 115, 32]⟩ ++ baOf (dig n) ++ ⟨#[10]⟩)) ∧ Below w.heap.size w w' := by
  have hsp := sp_len ns hlt
  have R := Rl.of hr
  have e1 : (⟨#[114, 111, 119, 115, 32]⟩ : ByteArray) ++ baOf (joinC 32 (ns.map dig)) ++ ⟨#[10, 114, 97, 110, 107, 10, 116, 117, 114, 110, 101, 100, 10]⟩ = baOf (joinC 10 ([rowsW ++ 32 :: joinC 32 (ns.map dig), rankW, turnedW] ++ [[]])) := by
    apply ByteArray.ext
    simp [baOf, joinC, rowsW, rankW, turnedW]
  have e2 : (⟨#[111, 107, 10]⟩ : ByteArray) ++ baOf (dig k) ++ ⟨#[10, 111, 107, 10, 112, 97, 105, 114, 115, 32]⟩ ++ baOf (dig n) ++ ⟨#[10]⟩ = baOf (outTo (rankAn k) 3 ++ [112, 97, 105, 114, 115, 32] ++ dig n ++ [10]) := by
    apply ByteArray.ext
    simp [baOf, outTo, rankAn]
  rw [e1, e2]
  refine execute_any w [rowsW ++ 32 :: joinC 32 (ns.map dig), rankW, turnedW] (rankSt (ns.map fun (n : Nat) => (n : Int))) (rankAn k) n hm hlow ?_ ?_ (by simp) rfl ?_ R.turn.ok ((size_turn R).trans hn) hn100
  · intro p hp
    rcases List.mem_cons.1 hp with rfl | hp
    · simp only [List.mem_append, List.mem_cons, not_or]
      exact ⟨by decide, by decide, join_no10 ns hlt⟩
    · rcases List.mem_cons.1 hp with rfl | hp
      · decide
      · obtain rfl := List.mem_singleton.1 hp
        decide
  · simp [joinC, rowsW, rankW, turnedW]
    omega
  · intro i p hp
    have hdl := dig_len ⟨k, hk100⟩
    simp only at hdl
    match i, hp with
    | 0, hp => obtain rfl := Option.some.inj hp; exact ⟨ans_rows ns _ h0 hlt hl hr, by simp [rankAn]⟩
    | 1, hp => obtain rfl := Option.some.inj hp; exact ⟨ans_rank _ k hr hk hk100, by simp only [rankAn]; omega⟩
    | 2, hp => obtain rfl := Option.some.inj hp; exact ⟨ans_turned _ hr, by simp [rankAn]⟩
    | i + 3, hp => simp at hp
end Go.Proofs.YthdnpcpimggjnaaGreatDoor

namespace Go.Proofs.YthdnpcpimggjnaaGreatDoor
open Go.RowKit

/-- the reader's place, set -/
theorem RdrAt.at {w : World} {R : Nat} {ao : Option Addr} {n c p : Nat} (h : RdrAt w R ao n c p) (q : Nat) : RdrAt (w.setCell ⟨R, 1, none⟩ (.int .i64 (q : Nat))) R ao n c q := by
  unfold RdrAt
  have hlt : R < w.heap.size := (Array.getElem?_eq_some_iff.1 h).1
  have h2 : w.heap[R] = .cells #[.slice ao n c, .int .i64 p] 98 := (Array.getElem?_eq_some_iff.1 h).2
  simp [World.setCell, hlt, h2, Array.getElem_modify]
theorem RdrAt.at61 {w : World} {R : Nat} {ao : Option Addr} {n c p : Nat} (h : RdrAt w R ao n c p) : RdrAt (w.setCell ⟨R, 1, none⟩ (.int .i64 61)) R ao n c 61 := h.at 61
theorem DrS.hereD {w wd : World} {R : Nat} {ao : Option Addr} {bs : List Nat} {c p : Nat} (S : DrS w wd R ao bs c p) : DrS wd wd R ao bs c p :=
  ⟨S.rd, Below.refl _ _, Nat.le_refl _, fun _ _ _ => rfl⟩
theorem wrapMore (n j : Nat) (h4 : n ≤ 4) (hj : j < 24) : IntKind.i64.wrap (IntKind.i64.wrap (2 ^ n) + IntKind.i64.wrap ((j : Int) / 23)) = ((2 ^ n + j / 23 : Nat) : Int) := by
  have e : (j : Int) / 23 = ((j / 23 : Nat) : Int) := by omega
  rw [e]
  have hj2 : j / 23 = 0 ∨ j / 23 = 1 := by omega
  rcases hj2 with h | h <;> rw [h] <;> (rcases (by omega : n = 0 ∨ n = 1 ∨ n = 2 ∨ n = 3 ∨ n = 4) with rfl | rfl | rfl | rfl | rfl <;> decide +kernel)
/-- what a draw gives: a list of its own, of at most 4 numbers, and a number -/
def DrewI (w : World) (e : Ending) (w' : World) : Prop :=
  ∃ (v : Value) (rs : List Int) (z : Int), e = .returned (.tuple #[v, .int .i64 z]) ∧ rs.length ≤ 4 ∧ w'.ownsRow w.heap.size 3 1 v rs.length (rs.map (Value.int .i64)) ∧ Below w.heap.size w w'

theorem drawRectRank_any (ao : Option Addr) (c : Nat) (bs : List Nat) (w : World) (hb : RdB w ao bs) (hc : bs.length ≤ c) (hbA : bs ≠ [] → ∀ a, ao = some a → a.block < w.heap.size) :
    Calls Tryz.prog 12 #[.slice ao bs.length c] w (Drew w) := by
  have HD := Lib.hid (l91Some_any ao c bs w hb hc hbA)
  clear hb hbA
  go_enter Tryz.func12, Tryz.ntmps12
  go_wp2_with fail
  refine HD.out.mono ?_
  rintro e w3 ⟨v, rs, rfl, hrest⟩
  have HR := Lib.hid hrest
  clear hrest HD
  go_wp2
  go_ret
  exact ⟨v, rs, rfl, HR.out⟩
end Go.Proofs.YthdnpcpimggjnaaGreatDoor
