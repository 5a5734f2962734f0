/-
  The program's ProgIf and ProgWhile; for lists of at most 2^20 numbers.
-/
import Derived.Test.YtcdiicckngndcabPE
import Derived.Test.YtcdiicckngndcabPH
namespace Go.Proofs.Ytcdiicckngndcab
open Go.RowKit

/-- two programs and a test -/
def ifB (z : Int) (xs ys : List Int) : Bool := twoIn xs ys && rowIn xs.length z
set_option maxHeartbeats 4000000 in
theorem implProgIf_any (z : Int) (ao bo : Option Addr) (ca cb : Nat) (xs ys : List Int) (w : World) (hl : xs.length ≤ 1048576) (hl2 : ys.length ≤ 1048576) (hx : Rd w ao xs) (hy : Rd w bo ys) :
    Calls Try.prog 26 #[.int .i64 z, .slice ao xs.length ca, .slice bo ys.length cb] w (Gave w (ifR (ifB z xs ys) (ifL z xs ys)) (ifB z xs ys)) := by
  cases ht : twoIn xs ys with
  | false =>
    have hp : ifB z xs ys = false := by unfold ifB; rw [ht]; rfl
    rw [hp]
    have H1 := Lib.hid (two_no ao bo ca cb xs ys w hl hl2 hx hy ht)
    clear ht hp hx hy
    go_enter Try.func26, Try.ntmps26
    go_wp2_with fail
    refine H1.out.mono ?_
    rintro e w1 ⟨rfl, hb⟩
    go_wp2
    go_ret2
    exact ⟨.slice none 0 0, rfl, World.ownsRow_nil _ _ _ _, (hb.alloc hb.size _).alloc (by have := hb.size; simp; omega) _⟩
  | true =>
    obtain ⟨hrx, hry, hn⟩ := twoIn_yes ht
    have h4 := relIn_len hrx
    have hs := fun wr => isSet_any z xs.length h4.1 h4.2 wr
    cases hz : rowIn xs.length z with
    | false =>
      have hp : ifB z xs ys = false := by unfold ifB; rw [hz, Bool.and_false]
      rw [hp]
      rw [hz] at hs
      have HS := Lib.hid hs
      have H1 := Lib.hid (two_yes ao bo ca cb xs ys w hx hy hrx hry hn)
      clear ht hp hx hy hs hrx hry h4 hz hn
      go_enter Try.func26, Try.ntmps26
      go_wp2_with fail
      refine H1.out.mono ?_
      rintro e w1 ⟨rfl, hb⟩
      have x1 := (RelAt.new w1 xs).alloc (.cells #[.int .i64 ys.length, .int .i64 (rowAt ys 0), .int .i64 (rowAt ys 1), .int .i64 (rowAt ys 2), .int .i64 (rowAt ys 3)] 47)
      have p0 := x1.cell0
      have B1 := (hb.alloc hb.size (.cells #[.int .i64 xs.length, .int .i64 (rowAt xs 0), .int .i64 (rowAt xs 1), .int .i64 (rowAt xs 2), .int .i64 (rowAt xs 3)] 47)).alloc (by have := hb.size; simp; omega) (.cells #[.int .i64 ys.length, .int .i64 (rowAt ys 0), .int .i64 (rowAt ys 1), .int .i64 (rowAt ys 2), .int .i64 (rowAt ys 3)] 47)
      clear x1 hb
      go_wp2_with fail
      refine (HS.out _).mono ?_
      rintro e w2 ⟨rfl, rfl⟩
      go_wp2
      go_ret2
      exact ⟨.slice none 0 0, rfl, World.ownsRow_nil _ _ _ _, B1⟩
    | true =>
      have hp : ifB z xs ys = true := by unfold ifB; rw [ht, hz]; rfl
      rw [hp]
      rw [hz] at hs
      have R := Rl.of hrx
      have K : Rl xs.length ys := hn ▸ Rl.of hry
      have hst := St.of R.four hz
      have hlen := if_len z xs ys
      have hL := fun wr => list_any (ifL z xs ys) wr (by rw [hlen]; exact h4.2)
      have HS := Lib.hid (And.intro hs (And.intro (fun w => inBranch_any R K hst w) hL))
      have H1 := Lib.hid (two_yes ao bo ca cb xs ys w hx hy hrx hry hn)
      obtain ⟨d, hd⟩ : ∃ d, ifL z xs ys = d := ⟨_, rfl⟩
      rw [hd] at HS
      rw [show ifR true (ifL z xs ys) = d from hd]
      clear ht hp hx hy hs hrx hry h4 hz hn R K hst hlen hL hd
      go_enter Try.func26, Try.ntmps26
      go_wp2_with fail
      refine H1.out.mono ?_
      rintro e w1 ⟨rfl, hb⟩
      have x1 := (RelAt.new w1 xs).alloc (.cells #[.int .i64 ys.length, .int .i64 (rowAt ys 0), .int .i64 (rowAt ys 1), .int .i64 (rowAt ys 2), .int .i64 (rowAt ys 3)] 47)
      have s1 := RelAt.new (w1.alloc (.cells #[.int .i64 xs.length, .int .i64 (rowAt xs 0), .int .i64 (rowAt xs 1), .int .i64 (rowAt xs 2), .int .i64 (rowAt xs 3)] 47)) ys
      simp only [World.size_alloc] at s1
      have B1 := (hb.alloc hb.size (.cells #[.int .i64 xs.length, .int .i64 (rowAt xs 0), .int .i64 (rowAt xs 1), .int .i64 (rowAt xs 2), .int .i64 (rowAt xs 3)] 47)).alloc (by have := hb.size; simp; omega) (.cells #[.int .i64 ys.length, .int .i64 (rowAt ys 0), .int .i64 (rowAt ys 1), .int .i64 (rowAt ys 2), .int .i64 (rowAt ys 3)] 47)
      have p0 := x1.cell0
      have p1 := x1.cell1
      have p2 := x1.cell2
      have p3 := x1.cell3
      have p4 := x1.cell4
      have r0 := s1.cell0
      have r1 := s1.cell1
      have r2 := s1.cell2
      have r3 := s1.cell3
      have r4 := s1.cell4
      clear x1 s1 hb
      go_wp2_with fail
      refine (HS.out.1 _).mono ?_
      rintro e w2 ⟨rfl, rfl⟩
      go_wp2_with fail
      refine (HS.out.2.1 _).mono ?_
      rintro e w3 ⟨rfl, hb⟩
      have B2 := B1.trans (hb.mono B1.size)
      clear B1 hb p0 p1 p2 p3 p4 r0 r1 r2 r3 r4
      go_wp2_with fail
      refine (HS.out.2.2 _).mono ?_
      rintro e w4 ⟨v, rfl, ho, hb⟩
      go_wp2
      go_ret2
      exact ⟨v, rfl, own_mono ho B2.size, B2.trans (hb.mono B2.size)⟩

set_option maxHeartbeats 4000000 in
theorem implProgWhile_any (z : Int) (ao : Option Addr) (ca : Nat) (xs : List Int) (w : World) (hl : xs.length ≤ 1048576) (hx : Rd w ao xs) :
    Calls Try.prog 32 #[.int .i64 z, .slice ao xs.length ca] w (Gave w (ifR (setB xs z) (whileL z xs)) (setB xs z)) := by
  cases hq : relIn xs with
  | false =>
    have hp : setB xs z = false := by unfold setB; rw [hq]; rfl
    rw [hp]
    have HQ := Lib.hid hq
    clear hq hp
    go_enter Try.func32, Try.ntmps32
    go_wp2_with (go_at_call 53; refine (relationFrom_no _ _ _ _ hl HQ.out hx).mono ?_; rintro e w1 ⟨rfl, hb⟩)
    go_ret2
    exact ⟨.slice none 0 0, rfl, World.ownsRow_nil _ _ _ _, hb.alloc hb.size _⟩
  | true =>
    have h4 := relIn_len hq
    have hs := fun wr => isSet_any z xs.length h4.1 h4.2 wr
    cases hz : rowIn xs.length z with
    | false =>
      have hp : setB xs z = false := by unfold setB; rw [hz, Bool.and_false]
      rw [hp]
      rw [hz] at hs
      have HS := Lib.hid hs
      have HQ := Lib.hid hq
      clear hq hp hs h4 hz
      go_enter Try.func32, Try.ntmps32
      go_wp2_with fail
      refine (relationFrom_yes _ _ _ _ HQ.out hx).mono ?_
      rintro e w1 ⟨rfl, hb⟩
      have x1 := RelAt.new w1 xs
      have B1 := hb.alloc hb.size (.cells #[.int .i64 xs.length, .int .i64 (rowAt xs 0), .int .i64 (rowAt xs 1), .int .i64 (rowAt xs 2), .int .i64 (rowAt xs 3)] 47)
      have p0 := x1.cell0
      clear x1 hb
      go_wp2_with fail
      refine (HS.out _).mono ?_
      rintro e w2 ⟨rfl, rfl⟩
      go_wp2
      go_ret2
      exact ⟨.slice none 0 0, rfl, World.ownsRow_nil _ _ _ _, B1⟩
    | true =>
      have hp : setB xs z = true := by unfold setB; rw [hq, hz]; rfl
      rw [hp]
      rw [hz] at hs
      have R := Rl.of hq
      have hst := St.of R.four hz
      have hlen := while_len z xs
      have hL := fun wr => list_any (whileL z xs) wr (by rw [hlen]; exact h4.2)
      have HS := Lib.hid (And.intro hs (And.intro (fun w => inLoop_any R hst w) hL))
      have HQ := Lib.hid hq
      obtain ⟨d, hd⟩ : ∃ d, whileL z xs = d := ⟨_, rfl⟩
      rw [hd] at HS
      rw [show ifR true (whileL z xs) = d from hd]
      clear hq hp hs h4 hz R hst hlen hL hd
      go_enter Try.func32, Try.ntmps32
      go_wp2_with fail
      refine (relationFrom_yes _ _ _ _ HQ.out hx).mono ?_
      rintro e w1 ⟨rfl, hb⟩
      have x1 := RelAt.new w1 xs
      have B1 := hb.alloc hb.size (.cells #[.int .i64 xs.length, .int .i64 (rowAt xs 0), .int .i64 (rowAt xs 1), .int .i64 (rowAt xs 2), .int .i64 (rowAt xs 3)] 47)
      have p0 := x1.cell0
      have p1 := x1.cell1
      have p2 := x1.cell2
      have p3 := x1.cell3
      have p4 := x1.cell4
      clear x1 hb
      go_wp2_with fail
      refine (HS.out.1 _).mono ?_
      rintro e w2 ⟨rfl, rfl⟩
      go_wp2_with fail
      refine (HS.out.2.1 _).mono ?_
      rintro e w3 ⟨rfl, hb⟩
      have B2 := B1.trans (hb.mono B1.size)
      clear B1 hb p0 p1 p2 p3 p4
      go_wp2_with fail
      refine (HS.out.2.2 _).mono ?_
      rintro e w4 ⟨v, rfl, ho, hb⟩
      go_wp2
      go_ret2
      exact ⟨v, rfl, own_mono ho B2.size, B2.trans (hb.mono B2.size)⟩
end Go.Proofs.Ytcdiicckngndcab
