/-
  Regular relations: the model's l7Most, l7Regular, RegularIn, RegularMost and RegularBack, for lists of at most 2^20 numbers.
-/
import Derived.Test.YtfcpfhffkfbgdaaTA
import Derived.Test.YtfcpfhffkfbgdaaHG
namespace Go.Proofs.Ytfcpfhffkfbgdaa
open Go.RowKit

set_option maxHeartbeats 4000000 in
theorem l7Most_walk (xs x a b c d : List Int) (ao : Option Addr) (ca : Nat) (w : World) (nx : 1 ≤ x.length) (na : 1 ≤ a.length) (nb : 1 ≤ b.length) (nc : 1 ≤ c.length) (hx : Rd w ao xs)
    (h0 : ∀ ao bo ca cb w, Rd w ao xs → Rd w bo xs → Calls Try.prog 72 #[.slice ao xs.length ca, .slice bo xs.length cb] w (GaveL w x))
    (h1 : ∀ ao ca w, Rd w ao x → Calls Try.prog 73 #[.slice ao x.length ca] w (GaveL w a))
    (h2 : ∀ ao ca w, Rd w ao xs → Calls Try.prog 74 #[.slice ao xs.length ca] w (GaveL w b))
    (h3 : ∀ ao bo ca cb w, Rd w ao a → Rd w bo b → Calls Try.prog 46 #[.slice ao a.length ca, .slice bo b.length cb] w (GaveL w c))
    (h4 : ∀ ao ca w, Rd w ao c → Calls Try.prog 73 #[.slice ao c.length ca] w (GaveL w d)) :
    Calls Try.prog 43 #[.slice ao xs.length ca] w (GaveL w d) := by
  have H := Lib.hid (And.intro h0 (And.intro h1 (And.intro h2 (And.intro h3 h4))))
  clear h0 h1 h2 h3 h4
  have rxs := hx
  clear hx
  go_enter Try.func43, Try.ntmps43
  go_wp2_with fail
  refine (H.out.1 _ _ _ _ _ rxs rxs).mono ?_
  rintro e w1 ⟨v, rfl, o1, b1⟩
  obtain ⟨gx, qx, rfl, _, _, rx⟩ := GaveL.form o1 nx
  have rxs := rxs.below b1
  clear o1
  go_wp2_with fail
  refine (H.out.2.1 _ qx _ rx).mono ?_
  rintro e w2 ⟨v, rfl, o2, b2⟩
  obtain ⟨ga, qa, rfl, _, _, ra⟩ := GaveL.form o2 na
  have rxs := rxs.below b2
  have B2 := b1.trans (b2.mono b1.size)
  clear o2 rx b1 b2
  go_wp2_with fail
  refine (H.out.2.2.1 _ _ _ rxs).mono ?_
  rintro e w3 ⟨v, rfl, o3, b3⟩
  obtain ⟨gb, qb, rfl, _, _, rb⟩ := GaveL.form o3 nb
  have ra := ra.below b3
  have B3 := B2.trans (b3.mono B2.size)
  clear o3 rxs B2 b3
  go_wp2_with fail
  refine (H.out.2.2.2.1 _ _ qa qb _ ra rb).mono ?_
  rintro e w4 ⟨v, rfl, o4, b4⟩
  obtain ⟨gc, qc, rfl, _, _, rc⟩ := GaveL.form o4 nc
  have B4 := B3.trans (b4.mono B3.size)
  clear o4 ra rb B3 b4
  go_wp2_with fail
  refine (H.out.2.2.2.2 _ qc _ rc).mono ?_
  rintro e w5 ⟨v, rfl, o5, b5⟩
  go_wp2
  go_ret
  exact ⟨v, rfl, own_mono o5 B4.size, B4.trans (b5.mono B4.size)⟩
theorem l7Most_any {n : Nat} {xs : List Int} (h : Rl n xs) (ao : Option Addr) (ca : Nat) (w : World) (hx : Rd w ao xs) :
    Calls Try.prog 43 #[.slice ao xs.length ca] w (GaveL w (mostX xs)) :=
  l7Most_walk xs (leftL xs xs) (otherL (leftL xs xs)) (turnL xs) (compL (otherL (leftL xs xs)) (turnL xs)) (mostX xs) ao ca w (Rl.pos (h.left h)) (Rl.pos (h.left h).other) (Rl.pos h.turn) (Rl.pos ((h.left h).other.comp h.turn)) hx
    (fun ao bo ca cb w => sLeft h h ao bo ca cb w) (fun ao ca w => sOther (h.left h) ao ca w) (fun ao ca w => sTurn h ao ca w) (fun ao bo ca cb w => sComp (h.left h).other h.turn ao bo ca cb w) (fun ao ca w => sOther ((h.left h).other.comp h.turn) ao ca w)

set_option maxHeartbeats 4000000 in
theorem l7Regular_walk (xs a b c : List Int) (s : Bool) (ao : Option Addr) (ca : Nat) (w : World) (na : 1 ≤ a.length) (nb : 1 ≤ b.length) (nc : 1 ≤ c.length) (hx : Rd w ao xs)
    (h1 : ∀ ao ca w, Rd w ao xs → Calls Try.prog 43 #[.slice ao xs.length ca] w (GaveL w a))
    (h2 : ∀ ao bo ca cb w, Rd w ao xs → Rd w bo a → Calls Try.prog 46 #[.slice ao xs.length ca, .slice bo a.length cb] w (GaveL w b))
    (h3 : ∀ ao bo ca cb w, Rd w ao b → Rd w bo xs → Calls Try.prog 46 #[.slice ao b.length ca, .slice bo xs.length cb] w (GaveL w c))
    (h4 : ∀ ao bo ca cb w, Rd w ao c → Rd w bo xs → Calls Try.prog 52 #[.slice ao c.length ca, .slice bo xs.length cb] w fun e w' => e = .returned (.bool s) ∧ Dn w w') :
    Calls Try.prog 40 #[.slice ao xs.length ca] w fun e w' => e = .returned (.bool s) ∧ Below w.heap.size w w' := by
  have H := Lib.hid (And.intro h1 (And.intro h2 (And.intro h3 h4)))
  clear h1 h2 h3 h4
  have rxs := hx
  clear hx
  have B0 := Below.refl w.heap.size w
  go_enter Try.func40, Try.ntmps40
  go_wp2_with fail
  refine (H.out.1 _ _ _ rxs).mono ?_
  rintro e w1 ⟨v, rfl, o1, b1⟩
  obtain ⟨ga, qa, rfl, _, _, ra⟩ := GaveL.form o1 na
  have rxs := rxs.below b1
  have B0 := B0.trans (b1.mono B0.size)
  clear o1 b1
  go_wp2_with fail
  refine (H.out.2.1 _ _ _ _ _ rxs ra).mono ?_
  rintro e w2 ⟨v, rfl, o1, b1⟩
  obtain ⟨gb, qb, rfl, _, _, rb⟩ := GaveL.form o1 nb
  have rxs := rxs.below b1
  have B0 := B0.trans (b1.mono B0.size)
  clear o1 b1 ra
  go_wp2_with fail
  refine (H.out.2.2.1 _ _ _ _ _ rb rxs).mono ?_
  rintro e w3 ⟨v, rfl, o1, b1⟩
  obtain ⟨gc, qc, rfl, _, _, rc⟩ := GaveL.form o1 nc
  have rxs := rxs.below b1
  have B0 := B0.trans (b1.mono B0.size)
  clear o1 b1 rb
  go_wp2_with fail
  refine (H.out.2.2.2 _ _ _ _ _ rc rxs).mono ?_
  rintro e w4 ⟨rfl, hd⟩
  have B0 := B0.trans (hd.below _)
  go_wp2
  go_ret
  exact ⟨rfl, B0⟩
theorem l7Regular_any {n : Nat} {xs : List Int} (h : Rl n xs) (ao : Option Addr) (ca : Nat) (w : World) (hx : Rd w ao xs) :
    Calls Try.prog 40 #[.slice ao xs.length ca] w fun e w' => e = .returned (.bool (regB xs)) ∧ Below w.heap.size w w' :=
  l7Regular_walk xs (mostX xs) (compL xs (mostX xs)) (compL (compL xs (mostX xs)) xs) (regB xs) ao ca w (Rl.pos h.mostX) (Rl.pos (h.comp h.mostX)) (Rl.pos ((h.comp h.mostX).comp h)) hx
    (fun ao ca w => l7Most_any h ao ca w) (fun ao bo ca cb w => sComp h h.mostX ao bo ca cb w) (fun ao bo ca cb w => sComp (h.comp h.mostX) h ao bo ca cb w)
    (fun ao bo ca cb w ha hb => l2Equal_any ao bo ca cb _ _ w (by have := ((h.comp h.mostX).comp h).len; have := h.four; omega) (by have := h.len; have := h.four; omega) ha hb)

theorem specRegularIn_any (ao : Option Addr) (ca : Nat) (xs : List Int) (w : World) (hl : xs.length ≤ 1048576) (hx : Rd w ao xs) :
    Calls Try.prog 14 #[.slice ao xs.length ca] w fun e w' => e = .returned (.bool (relIn xs && regB xs)) ∧ Below w.heap.size w w' := by
  have h1 := specRelIn_any ao ca xs w hl hx
  cases hp : relIn xs with
  | false =>
    rw [hp] at h1
    rw [Bool.false_and]
    have H1 := Lib.hid h1
    clear h1 hp hx
    go_enter Try.func14, Try.ntmps14
    go_wp2_with fail
    refine H1.out.mono ?_
    rintro e w1 ⟨rfl, hd⟩
    go_wp2
    go_ret
    exact ⟨rfl, hd.below _⟩
  | true =>
    rw [hp] at h1
    rw [Bool.true_and]
    have H1 := Lib.hid h1
    have HC := Lib.hid (fun w h => l7Regular_any (Rl.of hp) ao ca w h)
    clear h1 hp
    go_enter Try.func14, Try.ntmps14
    go_wp2_with fail
    refine H1.out.mono ?_
    rintro e w1 ⟨rfl, hd⟩
    go_wp2_with fail
    refine (HC.out _ (hd.rd hx)).mono ?_
    rintro e w2 ⟨rfl, hb⟩
    go_wp2
    go_ret
    exact ⟨rfl, (hd.below _).trans (hb.mono (hd.below w.heap.size).size)⟩

theorem specRegularMost_any (ao : Option Addr) (ca : Nat) (xs : List Int) (w : World) (hl : xs.length ≤ 1048576) (hx : Rd w ao xs) :
    Calls Try.prog 18 #[.slice ao xs.length ca] w (Gave w (ifR (relIn xs) (mostX xs)) (relIn xs)) := by
  have h1 := specRelIn_any ao ca xs w hl hx
  cases hp : relIn xs with
  | false =>
    rw [hp] at h1
    have H1 := Lib.hid h1
    clear h1 hp
    go_enter Try.func18, Try.ntmps18
    go_wp2_with (go_at_call 39; refine H1.out.mono ?_; rintro e w1 ⟨rfl, hd⟩)
    go_ret2
    have hh : w.heap.size = w1.heap.size := by rw [hd.heap]
    exact ⟨_, rfl, by rw [hh]; exact row_lit0 w1, (hd.below _).alloc (by omega) _⟩
  | true =>
    rw [hp] at h1
    have C := Lib.hid (fun w => l7Most_any (Rl.of hp) ao ca w)
    have H1 := Lib.hid h1
    clear h1 hp
    go_enter Try.func18, Try.ntmps18
    go_wp2_with fail
    refine H1.out.mono ?_
    rintro e w1 ⟨rfl, hd⟩
    go_wp2_with fail
    refine (C.out w1 (hd.rd hx)).mono ?_
    rintro e w2 ⟨v, rfl, ho, hb⟩
    go_wp2
    go_ret2
    have hh : w1.heap.size = w.heap.size := by rw [hd.heap]
    rw [hh] at ho hb
    exact ⟨v, rfl, ho, (hd.below _).trans hb⟩

set_option maxHeartbeats 4000000 in
theorem specBack_walk (xs a b d : List Int) (ao : Option Addr) (ca : Nat) (w : World) (na : 1 ≤ a.length) (nb : 1 ≤ b.length) (hx : Rd w ao xs)
    (h0 : Calls Try.prog 14 #[.slice ao xs.length ca] w fun e w' => e = .returned (.bool true) ∧ Below w.heap.size w w')
    (h1 : ∀ ao ca w, Rd w ao xs → Calls Try.prog 43 #[.slice ao xs.length ca] w (GaveL w a))
    (h2 : ∀ ao bo ca cb w, Rd w ao a → Rd w bo xs → Calls Try.prog 46 #[.slice ao a.length ca, .slice bo xs.length cb] w (GaveL w b))
    (h3 : ∀ ao bo ca cb w, Rd w ao b → Rd w bo a → Calls Try.prog 46 #[.slice ao b.length ca, .slice bo a.length cb] w (GaveL w d)) :
    Calls Try.prog 22 #[.slice ao xs.length ca] w (Gave w d true) := by
  have H := Lib.hid (And.intro h1 (And.intro h2 h3))
  have H0 := Lib.hid h0
  clear h0 h1 h2 h3
  have rxs := hx
  clear hx
  go_enter Try.func22, Try.ntmps22
  go_wp2_with fail
  refine H0.out.mono ?_
  rintro e w0 ⟨rfl, B0⟩
  have rxs := rxs.below B0
  go_wp2_with fail
  refine (H.out.1 _ _ _ rxs).mono ?_
  rintro e w1 ⟨v, rfl, o1, b1⟩
  obtain ⟨ga, qa, rfl, _, _, ra⟩ := GaveL.form o1 na
  have rxs := rxs.below b1
  have B1 := B0.trans (b1.mono B0.size)
  clear o1 B0 b1
  go_wp2_with fail
  refine (H.out.2.1 _ _ qa _ _ ra rxs).mono ?_
  rintro e w2 ⟨v, rfl, o2, b2⟩
  obtain ⟨gb, qb, rfl, _, _, rb⟩ := GaveL.form o2 nb
  have ra := ra.below b2
  have B2 := B1.trans (b2.mono B1.size)
  clear o2 rxs B1 b2
  go_wp2_with fail
  refine (H.out.2.2 _ _ qb qa _ rb ra).mono ?_
  rintro e w3 ⟨v, rfl, o3, b3⟩
  go_wp2
  go_ret2
  exact ⟨v, rfl, own_mono o3 B2.size, B2.trans (b3.mono B2.size)⟩
theorem specRegularBack_any (ao : Option Addr) (ca : Nat) (xs : List Int) (w : World) (hl : xs.length ≤ 1048576) (hx : Rd w ao xs) :
    Calls Try.prog 22 #[.slice ao xs.length ca] w (Gave w (ifR (relIn xs && regB xs) (backL xs)) (relIn xs && regB xs)) := by
  have h1 := specRegularIn_any ao ca xs w hl hx
  cases hp : (relIn xs && regB xs) with
  | false =>
    rw [hp] at h1
    have H1 := Lib.hid h1
    clear h1 hp
    go_enter Try.func22, Try.ntmps22
    go_wp2_with (go_at_call 14; refine H1.out.mono ?_; rintro e w1 ⟨rfl, hb⟩)
    go_ret2
    exact ⟨_, rfl, own_mono (row_lit0 w1) hb.size, hb.alloc hb.size _⟩
  | true =>
    rw [hp] at h1
    rw [Bool.and_eq_true] at hp
    have h := Rl.of hp.1
    exact specBack_walk xs (mostX xs) (compL (mostX xs) xs) (backL xs) ao ca w (Rl.pos h.mostX) (Rl.pos (h.mostX.comp h)) hx h1
      (fun ao ca w => l7Most_any h ao ca w) (fun ao bo ca cb w => sComp h.mostX h ao bo ca cb w) (fun ao bo ca cb w => sComp (h.mostX.comp h) h.mostX ao bo ca cb w)
end Go.Proofs.Ytfcpfhffkfbgdaa
