/-
  Least orders: OrderOf of the program and of the model; for lists of at most 2^20 numbers.
-/
import Derived.Test.YtillmjnkhkcedaaOC
import Derived.Test.YtillmjnkhkcedaaEN
namespace Go.Proofs.Ytillmjnkhkcedaa
open Go.RowKit

def ofB (xs : List Int) : Bool := relIn xs && ordB (starL xs)
set_option maxRecDepth 100000 in
set_option maxHeartbeats 4000000 in
theorem implOrderOf_any (ao : Option Addr) (ca : Nat) (xs : List Int) (w : World) (hl : xs.length ≤ 1048576) (hx : Rd w ao xs) :
    Calls Try.prog 22 #[.slice ao xs.length ca] w (Gave w (ifR (ofB xs) (starL xs)) (ofB xs)) := by
  unfold ofB
  cases hp : relIn xs with
  | false =>
    rw [Bool.false_and]
    have HC := Lib.hid (relationFrom_no ao ca xs w hl hp hx)
    clear hp hx
    go_enter Try.func22, Try.ntmps22
    go_wp2_with fail
    refine HC.out.mono ?_
    rintro e w1 ⟨rfl, hb⟩
    go_wp2
    go_ret2
    exact ⟨.slice none 0 0, rfl, World.ownsRow_nil _ _ _ _, hb.alloc hb.size _⟩
  | true =>
    rw [Bool.true_and]
    have R := Rl.of hp
    have S := R.star
    rw [← S.len] at S
    have hy := fun (h : ordB (starL xs) = true) wr => asOrder_yes S h wr
    have hn := fun (h : ordB (starL xs) = false) wr => asOrder_no S h wr
    have HY := Lib.hid (And.intro hy hn)
    have h4 := S.four
    have HC := Lib.hid (relationFrom_yes ao ca xs w hp hx)
    have H := Lib.hid R
    have HL := Lib.hid (fun wr => list_any (starL xs) wr h4)
    have HE := Lib.hid (show ∀ m a, Rep xs m a → fromL xs 0 (m - 0) = starL xs from fun m a hr => from_star R hr)
    clear hp hx R S hy hn h4
    obtain ⟨r, hr⟩ : ∃ r, starL xs = r := ⟨_, rfl⟩
    rw [hr] at HY HL HE ⊢
    clear hr
    go_enter Try.func22, Try.ntmps22
    go_wp2_with fail
    refine HC.out.mono ?_
    rintro e w1 ⟨rfl, hb⟩
    have x1 := RelAt.new w1 xs
    have B1 := hb.alloc hb.size (.cells #[.int .i64 xs.length, .int .i64 (rowAt xs 0), .int .i64 (rowAt xs 1), .int .i64 (rowAt xs 2), .int .i64 (rowAt xs 3)] 44)
    have p0 := x1.cell0
    have p1 := x1.cell1
    have p2 := x1.cell2
    have p3 := x1.cell3
    have p4 := x1.cell4
    clear x1 hb
    go_wp2_with fail
    refine (powersOf_any H.out _).mono ?_
    rintro e w2 ⟨v, m, a, hr, rfl, ho, hb2⟩
    obtain ⟨g, cap, rfl, _, _⟩ := pow_form ho (by omega)
    have hm := new_le H.out m hr.new
    have hlt := hr.lt
    have hE := HE.out m a hr
    have B2 := B1.trans (hb2.mono B1.size)
    have HE2 := Lib.hid hE
    clear p0 p1 p2 p3 p4 hb2 B1 hE hr
    go_wp2_with fail
    refine (from_any H.out hm g cap 0 (by omega) (by omega) _ (own_mono ho (Nat.zero_le _))).mono ?_
    rw [HE2.out]
    rintro e w3 ⟨rfl, hb3⟩
    have B3 := B2.trans (hb3.mono B2.size)
    clear hb3 B2 ho
    cases hq : ordB r with
    | false =>
      have HN := Lib.hid (HY.out.2 hq)
      have HB := Lib.hid hq
      clear hq
      go_wp2_with fail
      refine (HN.out _).mono ?_
      rintro e w4 ⟨rfl, hb4⟩
      have B4 := B3.trans (hb4.mono B3.size)
      clear hb4
      go_wp2
      go_ret2
      exact ⟨.slice none 0 0, by rw [HB.out]; rfl, by rw [HB.out]; exact World.ownsRow_nil _ _ _ _, B4.alloc B4.size _⟩
    | true =>
      have HN := Lib.hid (HY.out.1 hq)
      have HB := Lib.hid hq
      clear hq
      go_wp2_with fail
      refine (HN.out _).mono ?_
      rintro e w4 ⟨rfl, hb4⟩
      have B4 := (B3.trans (hb4.mono B3.size)).alloc (Nat.le_trans B3.size hb4.size) (.cells #[.int .i64 r.length, .int .i64 (rowAt r 0), .int .i64 (rowAt r 1), .int .i64 (rowAt r 2), .int .i64 (rowAt r 3)] 46)
      have y4 := OrdAt.new w4 r
      have q0 := y4.cell0
      have q1 := y4.cell1
      have q2 := y4.cell2
      have q3 := y4.cell3
      have q4 := y4.cell4
      clear hb4 y4
      go_wp2_with fail
      refine (HL.out _).mono ?_
      rintro e w5 ⟨v, rfl, ho, hb5⟩
      go_wp2
      go_ret2
      exact ⟨v, by rw [HB.out]; rfl, by rw [HB.out]; exact own_mono ho B4.size, B4.trans (hb5.mono B4.size)⟩

theorem specOrderOf_any (ao : Option Addr) (ca : Nat) (xs : List Int) (w : World) (hl : xs.length ≤ 1048576) (hx : Rd w ao xs) :
    Calls Try.prog 21 #[.slice ao xs.length ca] w (Gave w (ifR (ofB xs) (starL xs)) (ofB xs)) := by
  have h1 := specRelIn_any ao ca xs w hl hx
  unfold ofB
  cases hp : relIn xs with
  | false =>
    rw [Bool.false_and]
    rw [hp] at h1
    have H1 := Lib.hid h1
    clear h1 hp
    go_enter Try.func21, Try.ntmps21
    go_wp2_with (go_at_call 36; refine H1.out.mono ?_; rintro e w1 ⟨rfl, hd⟩)
    go_ret2
    have hh : w.heap.size = w1.heap.size := by rw [hd.heap]
    exact ⟨_, rfl, by rw [hh]; exact row_lit0 w1, (hd.below _).alloc (by omega) _⟩
  | true =>
    rw [Bool.true_and]
    rw [hp] at h1
    have R := Lib.hid (Rl.of hp)
    have H1 := Lib.hid h1
    have hsl := (Rl.of hp).star.len
    have h4 := (Rl.of hp).four
    clear h1 hp
    go_enter Try.func21, Try.ntmps21
    go_wp2_with fail
    refine H1.out.mono ?_
    rintro e w1 ⟨rfl, hd⟩
    have B1 := hd.below w.heap.size
    have hh : w1.heap.size = w.heap.size := by rw [hd.heap]
    have hx1 := hd.rd hx
    have HH := Lib.hid hh
    have HSL := Lib.hid hsl
    clear hd hx hh hsl
    go_wp2_with fail
    refine (l2Star_any ao ca xs w1 R.out hx1).mono ?_
    rintro e w2 ⟨v, rfl, ho, hb⟩
    rw [HH.out] at ho hb
    have B2 := B1.trans hb
    rw [← HSL.out] at ho
    have hse : (starL xs).length ≤ 1048576 := by rw [HSL.out]; omega
    obtain ⟨so, cs, rfl, hrs⟩ := row_rd ho
    have hq := specOrderIn_any so cs (starL xs) w2 hse hrs
    have HQ := Lib.hid hq
    clear hb B1 hq hse
    clear hrs HSL
    cases hb : ordB (starL xs) with
    | false =>
      have hq := HQ.out
      rw [hb] at hq
      have HQ := Lib.hid hq
      have HB := Lib.hid hb
      clear hq hb
      go_wp2_with fail
      refine HQ.out.mono ?_
      rintro e w3 ⟨rfl, hb3⟩
      have B3 := B2.trans (hb3.mono B2.size)
      have hr := own_mono (row_lit0 w3) B3.size
      go_wp2
      go_ret2
      exact ⟨_, by rw [HB.out]; rfl, by rw [HB.out]; exact hr, B3.alloc B3.size _⟩
    | true =>
      have hq := HQ.out
      rw [hb] at hq
      have HQ := Lib.hid hq
      have HB := Lib.hid hb
      clear hq hb
      go_wp2_with fail
      refine HQ.out.mono ?_
      rintro e w3 ⟨rfl, hb3⟩
      have B3 := B2.trans (hb3.mono B2.size)
      have ho3 := own_keep ho hb3 (fun q hq => (ho.lt q hq).2)
      clear ho hb3
      go_wp2
      go_ret2
      exact ⟨_, by rw [HB.out]; rfl, by rw [HB.out]; exact ho3, B3⟩
end Go.Proofs.Ytillmjnkhkcedaa
