/-
  Contracts of the program's madeOfTwo, RelEither, RelBoth, below and RelBelow, and of the model's l1Below and RelBelow; for lists of at most 2^20 numbers.
-/
import Derived.Test.YtcdiicckngndcabN
namespace Go.Proofs.Ytcdiicckngndcab
open Go.RowKit

theorem madeOfTwo_no (f : Value) (ao bo : Option Addr) (ca cb : Nat) (xs ys : List Int) (w : World) (hl : xs.length ≤ 1048576) (hl2 : ys.length ≤ 1048576) (hx : Rd w ao xs) (hy : Rd w bo ys) (hp : twoIn xs ys = false) :
    Calls Try.prog 69 #[.slice ao xs.length ca, .slice bo ys.length cb, f] w (Gave w [] false) := by
  have HP := Lib.hid hp
  clear hp
  go_enter Try.func69, Try.ntmps69
  go_wp2_with (go_at_call 65; refine (two_no _ _ _ _ _ _ _ hl hl2 hx hy HP.out).mono ?_; rintro e w1 ⟨rfl, hb⟩)
  go_ret2
  exact ⟨.slice none 0 0, rfl, World.ownsRow_nil _ _ _ _, (hb.alloc hb.size _).alloc (by have := hb.size; simp; omega) _⟩

theorem madeOfTwo_yes (g : FuncId) (hcf : ∀ args w, Sem.run Try.prog (callFunc g args) w = .ok (.enter g args) w) (m : List Int → List Int → List Int) (ao bo : Option Addr) (ca cb : Nat) (xs ys : List Int) (w : World) (hx : Rd w ao xs) (hy : Rd w bo ys)
    (hp : twoIn xs ys = true) (hm : (m xs ys).length = xs.length)
    (hg : ∀ w, Calls Try.prog g #[relOf xs, relOf ys] w fun e w' => e = .returned (relOf (m xs ys)) ∧ Below w.heap.size w w') :
    Calls Try.prog 69 #[.slice ao xs.length ca, .slice bo ys.length cb, .func (.func g) #[] #[]] w (Gave w (m xs ys) true) := by
  obtain ⟨h1, h2, h3⟩ := twoIn_yes hp
  have h4 := (relIn_len h1).2
  have HP := Lib.hid h1
  have HQ := Lib.hid h2
  have HN := Lib.hid h3
  have HM := Lib.hid hm
  have HG := Lib.hid hg
  clear hp hm hg h1 h2 h3
  go_enter Try.func69, Try.ntmps69
  go_wp2_with fail
  refine (two_yes _ _ _ _ _ _ _ hx hy HP.out HQ.out HN.out).mono ?_
  rintro e w1 ⟨rfl, hb⟩
  have x1 := (RelAt.new w1 xs).alloc (.cells #[.int .i64 ys.length, .int .i64 (rowAt ys 0), .int .i64 (rowAt ys 1), .int .i64 (rowAt ys 2), .int .i64 (rowAt ys 3)] 47)
  have p0 := x1.cell0
  have p1 := x1.cell1
  have p2 := x1.cell2
  have p3 := x1.cell3
  have p4 := x1.cell4
  clear x1
  go_wp2_with fail
  refine (HG.out _).mono ?_
  clear p0 p1 p2 p3 p4
  rintro e w2 ⟨rfl, hb2⟩
  go_wp2_with fail
  refine (list_any (m xs ys) w2 (by rw [HM.out]; exact h4)).mono ?_
  rintro e w3 ⟨v, rfl, ho, hb3⟩
  go_wp2
  go_ret2
  have h12 : Below w.heap.size w w2 := ((hb.alloc hb.size _).alloc (by have := hb.size; simp; omega) _).trans (hb2.mono (by have := hb.size; simp; omega))
  exact ⟨v, rfl, own_mono ho h12.size, h12.trans (hb3.mono h12.size)⟩

theorem cf_either (args : Array Value) (w : World) : Sem.run Try.prog (callFunc 70 args) w = .ok (.enter 70 args) w := by kernel_rfl

theorem implRelEither_any (ao bo : Option Addr) (ca cb : Nat) (xs ys : List Int) (w : World) (hl : xs.length ≤ 1048576) (hl2 : ys.length ≤ 1048576) (hx : Rd w ao xs) (hy : Rd w bo ys) :
    Calls Try.prog 29 #[.slice ao xs.length ca, .slice bo ys.length cb] w (Gave w (ifR (twoIn xs ys) (eitherL xs ys)) (twoIn xs ys)) := by
  cases hp : twoIn xs ys with
  | false =>
    have h1 := Lib.hid (madeOfTwo_no (.func (.func 70) #[] #[]) ao bo ca cb xs ys w hl hl2 hx hy hp)
    clear hp
    go_enter Try.func29, Try.ntmps29
    go_wp2_with (go_at_call 69; refine h1.out.mono ?_; rintro e w1 ⟨v, rfl, ho, hb⟩)
    go_ret2
    exact ⟨v, rfl, ho, hb⟩
  | true =>
    obtain ⟨h1, h2, h3⟩ := twoIn_yes hp
    have h4 := relIn_len h1
    have h1 := Lib.hid (madeOfTwo_yes 70 cf_either eitherL ao bo ca cb xs ys w hx hy hp (by unfold eitherL zipI; rw [List.length_zipWith, h3, Nat.min_self]) (fun w => either_any xs ys w h4.2 h3))
    clear hp h2 h3
    go_enter Try.func29, Try.ntmps29
    go_wp2_with (go_at_call 69; refine h1.out.mono ?_; rintro e w1 ⟨v, rfl, ho, hb⟩)
    go_ret2
    exact ⟨v, rfl, ho, hb⟩

theorem cf_both (args : Array Value) (w : World) : Sem.run Try.prog (callFunc 92 args) w = .ok (.enter 92 args) w := by kernel_rfl

/-- each row of the first one is a part of the second one's -/
def belowB (xs ys : List Int) : Bool := (zipI (bits .andNot .i64) xs ys).all (fun x => x == 0)

end Go.Proofs.Ytcdiicckngndcab
