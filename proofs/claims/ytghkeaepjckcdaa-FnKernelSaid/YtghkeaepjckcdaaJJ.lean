/-
  EquJoin, of the program and of the model.
-/
import Derived.Test.YtghkeaepjckcdaaJE
import Derived.Test.YtghkeaepjckcdaaJL
namespace Go.Proofs.Ytghkeaepjckcdaa
open Go.RowKit

theorem join_len {xs ys : List Int} (h : twoEq xs ys = true) : (reachL (compL xs ys)).length = xs.length := by
  obtain ⟨h2, hex, hey⟩ := twoEq_yes h
  obtain ⟨hrx, hry, hn⟩ := twoIn_yes h2
  have R := Rl.of hrx
  have S := Rl.of hry
  rw [← hn] at S
  have C := R.comp S
  have h := Rl.reach (xs := compL xs ys) (by rw [C.len]; exact C)
  rw [h.len, C.len]

theorem specEquJoin_any (ao bo : Option Addr) (ca cb : Nat) (xs ys : List Int) (w : World) (hl : xs.length ≤ 1048576) (hl2 : ys.length ≤ 1048576) (hx : Rd w ao xs) (hy : Rd w bo ys) :
    Calls Try.prog 20 #[.slice ao xs.length ca, .slice bo ys.length cb] w (Gave w (ifR (twoEq xs ys) (reachL (compL xs ys))) (twoEq xs ys)) := by
  have h1 := l4Two_any ao bo ca cb xs ys w hl hl2 hx hy
  cases hp : twoEq xs ys with
  | false =>
    rw [hp] at h1
    have H1 := Lib.hid h1
    clear h1 hp hx hy
    go_enter Try.func20, Try.ntmps20
    go_wp2_with fail
    refine H1.out.mono ?_
    rintro e w1 ⟨rfl, hb⟩
    have hr := own_mono (row_lit0 w1) hb.size
    go_wp2
    go_ret2
    exact ⟨_, rfl, hr, hb.alloc hb.size _⟩
  | true =>
    rw [hp] at h1
    obtain ⟨h2, _, _⟩ := twoEq_yes hp
    obtain ⟨hrx, hry, hn⟩ := twoIn_yes h2
    have R := Rl.of hrx
    have S := Rl.of hry
    rw [← hn] at S
    have C := R.comp S
    have hjl := join_len hp
    have hC := fun wr h h' => l2Comp_any ao bo ca cb xs ys wr R.four (by rw [← hn]; exact R.four) R.in16 h h'
    have hR := fun ao ca wr h => l2Reach_any ao ca (compL xs ys) wr (by rw [C.len]; exact C.one) (by rw [C.len]; exact C.four) C.in16 h
    rw [C.len] at hR
    have hlc := C.len
    have H1 := Lib.hid h1
    have HB := Lib.hid (And.intro hC (And.intro hR (And.intro hjl hlc)))
    clear h1 hp h2 hrx hry hn hC hR hjl hlc R S C
    go_enter Try.func20, Try.ntmps20
    go_wp2_with fail
    refine H1.out.mono ?_
    rintro e w1 ⟨rfl, hb⟩
    have hx1 := hx.below hb
    have hy1 := hy.below hb
    clear hx hy
    go_wp2_with fail
    refine (HB.out.1 _ hx1 hy1).mono ?_
    rintro e w2 ⟨v, rfl, ho, hb2⟩
    have hln := HB.out.2.2.2
    rw [← hln] at ho
    obtain ⟨co, cc, rfl, hc⟩ := row_rd ho
    rw [hln]
    have HLN := Lib.hid hln
    have B2 := hb.trans (hb2.mono hb.size)
    clear hln ho hx1 hy1 hb2
    go_wp2_with fail
    refine (HB.out.2.1 co cc _ hc).mono ?_
    rintro e w3 ⟨v, rfl, ho, hb3⟩
    have hr := own_mono ho B2.size
    go_wp2
    go_ret2
    exact ⟨v, rfl, by rw [show (ifR true (reachL (compL xs ys))).length = xs.length from HB.out.2.2.1]; exact hr, B2.trans (hb3.mono B2.size)⟩

set_option maxHeartbeats 1000000 in
theorem implEquJoin_any (ao bo : Option Addr) (ca cb : Nat) (xs ys : List Int) (w : World) (hl : xs.length ≤ 1048576) (hl2 : ys.length ≤ 1048576) (hx : Rd w ao xs) (hy : Rd w bo ys) :
    Calls Try.prog 17 #[.slice ao xs.length ca, .slice bo ys.length cb] w (Gave w (ifR (twoEq xs ys) (reachL (compL xs ys))) (twoEq xs ys)) := by
  cases hp : twoEq xs ys with
  | false =>
    have H1 := Lib.hid (twoEqu_no ao bo ca cb xs ys w hl hl2 hp hx hy)
    clear hp hx hy
    go_enter Try.func17, Try.ntmps17
    go_wp2_with fail
    refine H1.out.mono ?_
    rintro e w1 ⟨rfl, hb⟩
    go_wp2
    go_ret2
    exact ⟨.slice none 0 0, rfl, World.ownsRow_nil _ _ _ _, (hb.alloc hb.size _).alloc (by have := hb.size; simp; omega) _⟩
  | true =>
    obtain ⟨h2, hex, hey⟩ := twoEq_yes hp
    obtain ⟨hrx, hry, hn⟩ := twoIn_yes h2
    have R := Rl.of hrx
    have S := Rl.of hry
    rw [← hn] at S
    have E := (equ_iff xs).1 hex
    have F := (equ_iff ys).1 hey
    rw [← hn] at F
    have T := R.either S
    have hjl := join_len hp
    have h4 := R.four
    have hje : forestR xs.length (linkS (eitherL xs ys)) = _ := join_eq E F
    have hEi := fun wr => either_any xs ys wr h4 hn
    have hLk := fun wr => linkedBy_any T wr
    have hFo := linkS_fo T
    have hEq := fun (B : Nat) (wr : World) (h : LinkW wr B xs.length (linkS (eitherL xs ys))) hB => equivalence_any hFo h4 wr h hB
    rw [hje] at hEq
    have hL := fun wr => list_any (reachL (compL xs ys)) wr (by rw [hjl]; exact h4)
    rw [hjl] at hL
    have H1 := Lib.hid (twoEqu_yes ao bo ca cb xs ys w hp hx hy)
    have HB := Lib.hid (And.intro hEi (And.intro hLk (And.intro hEq (And.intro hL hjl))))
    clear hp hx hy h2 hrx hry hn hEi hLk hEq hL hjl R S E F T hje hFo hex hey
    go_enter Try.func17, Try.ntmps17
    go_wp2_with fail
    refine H1.out.mono ?_
    rintro e w1 ⟨rfl, hb⟩
    have x1 := (RelAt.new w1 xs).alloc (.cells #[.int .i64 ys.length, .int .i64 (rowAt ys 0), .int .i64 (rowAt ys 1), .int .i64 (rowAt ys 2), .int .i64 (rowAt ys 3)] 41)
    have s1 := RelAt.new (w1.alloc (.cells #[.int .i64 xs.length, .int .i64 (rowAt xs 0), .int .i64 (rowAt xs 1), .int .i64 (rowAt xs 2), .int .i64 (rowAt xs 3)] 41)) ys
    simp only [World.size_alloc] at s1
    have B1 := (hb.alloc hb.size (.cells #[.int .i64 xs.length, .int .i64 (rowAt xs 0), .int .i64 (rowAt xs 1), .int .i64 (rowAt xs 2), .int .i64 (rowAt xs 3)] 41)).alloc (by have := hb.size; simp; omega) (.cells #[.int .i64 ys.length, .int .i64 (rowAt ys 0), .int .i64 (rowAt ys 1), .int .i64 (rowAt ys 2), .int .i64 (rowAt ys 3)] 41)
    have p0 := x1.cell0
    have p1 := x1.cell1
    have p2 := x1.cell2
    have p3 := x1.cell3
    have p4 := x1.cell4
    have r0 := s1.cell0
    have r1 := s1.cell1
    have r2 := s1.cell2
    have r3 := s1.cell3
    have r4 := s1.cell4
    clear x1 s1 hb
    go_wp2_with fail
    refine (HB.out.1 _).mono ?_
    rintro e w2 ⟨rfl, hb2⟩
    have B2 := B1.trans (hb2.mono B1.size)
    clear hb2 B1 p0 p1 p2 p3 p4 r0 r1 r2 r3 r4
    go_wp2_with fail
    refine (HB.out.2.1 _).mono ?_
    rintro e w3 ⟨rfl, hK, hs3, hb3⟩
    have B3 := B2.trans (hb3.mono B2.size)
    have HK := Lib.hid (And.intro hK hs3)
    clear hb3 B2 hK hs3
    go_wp2_with fail
    refine (HB.out.2.2.1 _ _ HK.out.1 (by have := HK.out.2; omega)).mono ?_
    rintro e w4 ⟨rfl, hb4⟩
    have B4 := B3.trans (hb4.mono B3.size)
    clear hb4 B3
    go_wp2_with fail
    refine (HB.out.2.2.2.1 _).mono ?_
    rintro e w5 ⟨v, rfl, ho, hb5⟩
    have hr := own_mono ho B4.size
    go_wp2
    go_ret2
    exact ⟨v, rfl, by rw [show (ifR true (reachL (compL xs ys))).length = xs.length from HB.out.2.2.2.2]; exact hr, B4.trans (hb5.mono B4.size)⟩
end Go.Proofs.Ytghkeaepjckcdaa
