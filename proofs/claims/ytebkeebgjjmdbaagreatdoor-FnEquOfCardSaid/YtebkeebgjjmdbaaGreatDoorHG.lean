/-
  The model's kinds of relations, letter by letter.
-/
import Derived.Test.YtebkeebgjjmdbaaGreatDoorEF
import Derived.Test.YtebkeebgjjmdbaaGreatDoorHA
namespace Go.Proofs.YtebkeebgjjmdbaaGreatDoor
open Go.RowKit

theorem Rl.pos {n : Nat} {xs : List Int} (h : Rl n xs) : 1 ≤ xs.length := h.len.symm ▸ h.one
theorem sSame {n : Nat} {xs : List Int} (h : Rl n xs) (w : World) : Calls Tryz.prog 56 #[.int .i64 xs.length] w (GaveL w (sameL xs.length)) := by
  refine (l1Same_any xs.length w (h.len.symm ▸ h.one) (h.len.symm ▸ h.four)).mono ?_
  rintro e w' ⟨v, rfl, ho, hb⟩
  exact ⟨v, rfl, by rw [sameL_len]; exact ho, hb⟩
theorem sBoth {n : Nat} {xs ys : List Int} (h : Rl n xs) (k : Rl n ys) (ao bo : Option Addr) (ca cb : Nat) (w : World) (hx : Rd w ao xs) (hy : Rd w bo ys) : Calls Tryz.prog 58 #[.slice ao xs.length ca, .slice bo ys.length cb] w (GaveL w (bothL xs ys)) := by
  refine (l1Both_any ao bo ca cb xs ys w (h.len.symm ▸ h.four) (h.len.trans k.len.symm) hx hy).mono ?_
  rintro e w' ⟨v, rfl, ho, hb⟩
  exact ⟨v, rfl, by rw [(h.both k).len, ← h.len]; exact ho, hb⟩
theorem sBelow {n : Nat} {xs ys : List Int} (h : Rl n xs) (k : Rl n ys) (ao bo : Option Addr) (ca cb : Nat) (w : World) (hx : Rd w ao xs) (hy : Rd w bo ys) : Calls Tryz.prog 55 #[.slice ao xs.length ca, .slice bo ys.length cb] w fun e w' => e = .returned (.bool (belowB xs ys)) ∧ Dn w w' :=
  l1Below_any ao bo ca cb xs ys w (h.len.symm ▸ h.four) (h.len.trans k.len.symm) hx hy
theorem sEqual {n : Nat} {xs ys : List Int} (h : Rl n xs) (k : Rl n ys) (ao bo : Option Addr) (ca cb : Nat) (w : World) (hx : Rd w ao xs) (hy : Rd w bo ys) : Calls Tryz.prog 33 #[.slice ao xs.length ca, .slice bo ys.length cb] w fun e w' => e = .returned (.bool (decide (xs = ys))) ∧ Dn w w' :=
  l2Equal_any ao bo ca cb xs ys w (by have := h.len; have := h.four; omega) (by have := k.len; have := k.four; omega) hx hy

set_option maxHeartbeats 4000000 in
theorem l3Kind_r_walk (xs b u : List Int) (s : Bool) (ao : Option Addr) (ca : Nat) (w : World) (nb : 1 ≤ b.length) (nu : 1 ≤ u.length) (hx : Rd w ao xs)
    (h1 : ∀ ao ca w, Rd w ao xs → Calls Tryz.prog 54 #[.slice ao xs.length ca] w (GaveL w b))
    (h2 : ∀ w, Calls Tryz.prog 56 #[.int .i64 xs.length] w (GaveL w u))
    (h3 : ∀ ao bo ca cb w, Rd w ao u → Rd w bo xs → Calls Tryz.prog 55 #[.slice ao u.length ca, .slice bo xs.length cb] w fun e w' => e = .returned (.bool s) ∧ Dn w w') :
    Calls Tryz.prog 37 #[.slice ao xs.length ca, .int .u8 114] w fun e w' => e = .returned (.bool s) ∧ Below w.heap.size w w' := by
  have H := Lib.hid (And.intro h1 (And.intro h2 h3))
  clear h1 h2 h3
  have rxs := hx
  clear hx
  have B0 := Below.refl w.heap.size w
  go_enter Tryz.func37, Tryz.ntmps37
  go_wp2_with fail
  refine (H.out.1 _ _ _ rxs).mono ?_
  rintro e w1 ⟨v, rfl, o1, b1⟩
  obtain ⟨gb, qb, rfl, _, _, rb⟩ := GaveL.form o1 nb
  have rxs := rxs.below b1
  have B0 := B0.trans (b1.mono B0.size)
  clear o1 b1
  go_wp2_with fail
  refine (H.out.2.1 _).mono ?_
  rintro e w2 ⟨v, rfl, o1, b1⟩
  obtain ⟨gu, qu, rfl, _, _, ru⟩ := GaveL.form o1 nu
  have rxs := rxs.below b1
  have rb := rb.below b1
  have B0 := B0.trans (b1.mono B0.size)
  clear o1 b1
  go_wp2_with fail
  refine (H.out.2.2 _ _ _ _ _ ru rxs).mono ?_
  rintro e w3 ⟨rfl, hd⟩
  have B0 := B0.trans (hd.below _)
  go_wp2
  go_ret
  exact ⟨rfl, B0⟩
theorem l3Kind_r {n : Nat} {xs : List Int} (h : Rl n xs) (ao : Option Addr) (ca : Nat) (w : World) (hx : Rd w ao xs) : Calls Tryz.prog 37 #[.slice ao xs.length ca, .int .u8 114] w fun e w' => e = .returned (.bool (kindR xs)) ∧ Below w.heap.size w w' := by
  have hs : Rl n (sameL xs.length) := by rw [h.len]; exact Rl.same h.one h.four
  exact l3Kind_r_walk xs (turnL xs) (sameL xs.length) (kindR xs) ao ca w (Rl.pos h.turn) (Rl.pos hs) hx (fun ao ca w => sTurn h ao ca w) (fun w => sSame h w) (fun ao bo ca cb w => sBelow hs h ao bo ca cb w)

set_option maxHeartbeats 4000000 in
theorem l3Kind_i_walk (xs b u v : List Int) (s : Bool) (ao : Option Addr) (ca : Nat) (w : World) (nb : 1 ≤ b.length) (nu : 1 ≤ u.length) (nv : 1 ≤ v.length) (hx : Rd w ao xs)
    (h1 : ∀ ao ca w, Rd w ao xs → Calls Tryz.prog 54 #[.slice ao xs.length ca] w (GaveL w b))
    (h2 : ∀ w, Calls Tryz.prog 56 #[.int .i64 xs.length] w (GaveL w u))
    (h3 : ∀ ao ca w, Rd w ao xs → Calls Tryz.prog 57 #[.slice ao xs.length ca] w (GaveL w v))
    (h4 : ∀ ao bo ca cb w, Rd w ao u → Rd w bo v → Calls Tryz.prog 55 #[.slice ao u.length ca, .slice bo v.length cb] w fun e w' => e = .returned (.bool s) ∧ Dn w w') :
    Calls Tryz.prog 37 #[.slice ao xs.length ca, .int .u8 105] w fun e w' => e = .returned (.bool s) ∧ Below w.heap.size w w' := by
  have H := Lib.hid (And.intro h1 (And.intro h2 (And.intro h3 h4)))
  clear h1 h2 h3 h4
  have rxs := hx
  clear hx
  have B0 := Below.refl w.heap.size w
  go_enter Tryz.func37, Tryz.ntmps37
  go_wp2_with fail
  refine (H.out.1 _ _ _ rxs).mono ?_
  rintro e w1 ⟨v, rfl, o1, b1⟩
  obtain ⟨gb, qb, rfl, _, _, rb⟩ := GaveL.form o1 nb
  have rxs := rxs.below b1
  have B0 := B0.trans (b1.mono B0.size)
  clear o1 b1
  go_wp2_with fail
  refine (H.out.2.1 _).mono ?_
  rintro e w2 ⟨v, rfl, o1, b1⟩
  obtain ⟨gu, qu, rfl, _, _, ru⟩ := GaveL.form o1 nu
  have rxs := rxs.below b1
  have rb := rb.below b1
  have B0 := B0.trans (b1.mono B0.size)
  clear o1 b1
  go_wp2_with fail
  refine (H.out.2.2.1 _ _ _ rxs).mono ?_
  rintro e w3 ⟨v, rfl, o1, b1⟩
  obtain ⟨gv, qv, rfl, _, _, rv⟩ := GaveL.form o1 nv
  have rxs := rxs.below b1
  have rb := rb.below b1
  have ru := ru.below b1
  have B0 := B0.trans (b1.mono B0.size)
  clear o1 b1
  go_wp2_with fail
  refine (H.out.2.2.2 _ _ _ _ _ ru rv).mono ?_
  rintro e w4 ⟨rfl, hd⟩
  have B0 := B0.trans (hd.below _)
  go_wp2
  go_ret
  exact ⟨rfl, B0⟩
theorem l3Kind_i {n : Nat} {xs : List Int} (h : Rl n xs) (ao : Option Addr) (ca : Nat) (w : World) (hx : Rd w ao xs) : Calls Tryz.prog 37 #[.slice ao xs.length ca, .int .u8 105] w fun e w' => e = .returned (.bool (kindI xs)) ∧ Below w.heap.size w w' := by
  have hs : Rl n (sameL xs.length) := by rw [h.len]; exact Rl.same h.one h.four
  exact l3Kind_i_walk xs (turnL xs) (sameL xs.length) (otherL xs) (kindI xs) ao ca w (Rl.pos h.turn) (Rl.pos hs) (Rl.pos (Rl.other h)) hx (fun ao ca w => sTurn h ao ca w) (fun w => sSame h w) (fun ao ca w => sOther h ao ca w) (fun ao bo ca cb w => sBelow hs (Rl.other h) ao bo ca cb w)

set_option maxHeartbeats 4000000 in
theorem l3Kind_s_walk (xs b : List Int) (s : Bool) (ao : Option Addr) (ca : Nat) (w : World) (nb : 1 ≤ b.length) (hx : Rd w ao xs)
    (h1 : ∀ ao ca w, Rd w ao xs → Calls Tryz.prog 54 #[.slice ao xs.length ca] w (GaveL w b))
    (h2 : ∀ ao bo ca cb w, Rd w ao xs → Rd w bo b → Calls Tryz.prog 33 #[.slice ao xs.length ca, .slice bo b.length cb] w fun e w' => e = .returned (.bool s) ∧ Dn w w') :
    Calls Tryz.prog 37 #[.slice ao xs.length ca, .int .u8 115] w fun e w' => e = .returned (.bool s) ∧ Below w.heap.size w w' := by
  have H := Lib.hid (And.intro h1 h2)
  clear h1 h2
  have rxs := hx
  clear hx
  have B0 := Below.refl w.heap.size w
  go_enter Tryz.func37, Tryz.ntmps37
  go_wp2_with fail
  refine (H.out.1 _ _ _ rxs).mono ?_
  rintro e w1 ⟨v, rfl, o1, b1⟩
  obtain ⟨gb, qb, rfl, _, _, rb⟩ := GaveL.form o1 nb
  have rxs := rxs.below b1
  have B0 := B0.trans (b1.mono B0.size)
  clear o1 b1
  go_wp2_with fail
  refine (H.out.2 _ _ _ _ _ rxs rb).mono ?_
  rintro e w2 ⟨rfl, hd⟩
  have B0 := B0.trans (hd.below _)
  go_wp2
  go_ret
  exact ⟨rfl, B0⟩
theorem l3Kind_s {n : Nat} {xs : List Int} (h : Rl n xs) (ao : Option Addr) (ca : Nat) (w : World) (hx : Rd w ao xs) : Calls Tryz.prog 37 #[.slice ao xs.length ca, .int .u8 115] w fun e w' => e = .returned (.bool (kindS xs)) ∧ Below w.heap.size w w' := by
  exact l3Kind_s_walk xs (turnL xs) (kindS xs) ao ca w (Rl.pos h.turn) hx (fun ao ca w => sTurn h ao ca w) (fun ao bo ca cb w => sEqual h h.turn ao bo ca cb w)

set_option maxHeartbeats 4000000 in
theorem l3Kind_a_walk (xs b u v : List Int) (s : Bool) (ao : Option Addr) (ca : Nat) (w : World) (nb : 1 ≤ b.length) (nu : 1 ≤ u.length) (nv : 1 ≤ v.length) (hx : Rd w ao xs)
    (h1 : ∀ ao ca w, Rd w ao xs → Calls Tryz.prog 54 #[.slice ao xs.length ca] w (GaveL w b))
    (h2 : ∀ ao bo ca cb w, Rd w ao xs → Rd w bo b → Calls Tryz.prog 58 #[.slice ao xs.length ca, .slice bo b.length cb] w (GaveL w u))
    (h3 : ∀ w, Calls Tryz.prog 56 #[.int .i64 xs.length] w (GaveL w v))
    (h4 : ∀ ao bo ca cb w, Rd w ao u → Rd w bo v → Calls Tryz.prog 55 #[.slice ao u.length ca, .slice bo v.length cb] w fun e w' => e = .returned (.bool s) ∧ Dn w w') :
    Calls Tryz.prog 37 #[.slice ao xs.length ca, .int .u8 97] w fun e w' => e = .returned (.bool s) ∧ Below w.heap.size w w' := by
  have H := Lib.hid (And.intro h1 (And.intro h2 (And.intro h3 h4)))
  clear h1 h2 h3 h4
  have rxs := hx
  clear hx
  have B0 := Below.refl w.heap.size w
  go_enter Tryz.func37, Tryz.ntmps37
  go_wp2_with fail
  refine (H.out.1 _ _ _ rxs).mono ?_
  rintro e w1 ⟨v, rfl, o1, b1⟩
  obtain ⟨gb, qb, rfl, _, _, rb⟩ := GaveL.form o1 nb
  have rxs := rxs.below b1
  have B0 := B0.trans (b1.mono B0.size)
  clear o1 b1
  go_wp2_with fail
  refine (H.out.2.1 _ _ _ _ _ rxs rb).mono ?_
  rintro e w2 ⟨v, rfl, o1, b1⟩
  obtain ⟨gu, qu, rfl, _, _, ru⟩ := GaveL.form o1 nu
  have rxs := rxs.below b1
  have rb := rb.below b1
  have B0 := B0.trans (b1.mono B0.size)
  clear o1 b1
  go_wp2_with fail
  refine (H.out.2.2.1 _).mono ?_
  rintro e w3 ⟨v, rfl, o1, b1⟩
  obtain ⟨gv, qv, rfl, _, _, rv⟩ := GaveL.form o1 nv
  have rxs := rxs.below b1
  have rb := rb.below b1
  have ru := ru.below b1
  have B0 := B0.trans (b1.mono B0.size)
  clear o1 b1
  go_wp2_with fail
  refine (H.out.2.2.2 _ _ _ _ _ ru rv).mono ?_
  rintro e w4 ⟨rfl, hd⟩
  have B0 := B0.trans (hd.below _)
  go_wp2
  go_ret
  exact ⟨rfl, B0⟩
theorem l3Kind_a {n : Nat} {xs : List Int} (h : Rl n xs) (ao : Option Addr) (ca : Nat) (w : World) (hx : Rd w ao xs) : Calls Tryz.prog 37 #[.slice ao xs.length ca, .int .u8 97] w fun e w' => e = .returned (.bool (kindA xs)) ∧ Below w.heap.size w w' := by
  have hs : Rl n (sameL xs.length) := by rw [h.len]; exact Rl.same h.one h.four
  exact l3Kind_a_walk xs (turnL xs) (bothL xs (turnL xs)) (sameL xs.length) (kindA xs) ao ca w (Rl.pos h.turn) (Rl.pos (Rl.both h h.turn)) (Rl.pos hs) hx (fun ao ca w => sTurn h ao ca w) (fun ao bo ca cb w => sBoth h h.turn ao bo ca cb w) (fun w => sSame h w) (fun ao bo ca cb w => sBelow (Rl.both h h.turn) hs ao bo ca cb w)

set_option maxHeartbeats 4000000 in
theorem l3Kind_t_walk (xs b u : List Int) (s : Bool) (ao : Option Addr) (ca : Nat) (w : World) (nb : 1 ≤ b.length) (nu : 1 ≤ u.length) (hx : Rd w ao xs)
    (h1 : ∀ ao ca w, Rd w ao xs → Calls Tryz.prog 54 #[.slice ao xs.length ca] w (GaveL w b))
    (h2 : ∀ ao bo ca cb w, Rd w ao xs → Rd w bo xs → Calls Tryz.prog 59 #[.slice ao xs.length ca, .slice bo xs.length cb] w (GaveL w u))
    (h3 : ∀ ao bo ca cb w, Rd w ao u → Rd w bo xs → Calls Tryz.prog 55 #[.slice ao u.length ca, .slice bo xs.length cb] w fun e w' => e = .returned (.bool s) ∧ Dn w w') :
    Calls Tryz.prog 37 #[.slice ao xs.length ca, .int .u8 116] w fun e w' => e = .returned (.bool s) ∧ Below w.heap.size w w' := by
  have H := Lib.hid (And.intro h1 (And.intro h2 h3))
  clear h1 h2 h3
  have rxs := hx
  clear hx
  have B0 := Below.refl w.heap.size w
  go_enter Tryz.func37, Tryz.ntmps37
  go_wp2_with fail
  refine (H.out.1 _ _ _ rxs).mono ?_
  rintro e w1 ⟨v, rfl, o1, b1⟩
  obtain ⟨gb, qb, rfl, _, _, rb⟩ := GaveL.form o1 nb
  have rxs := rxs.below b1
  have B0 := B0.trans (b1.mono B0.size)
  clear o1 b1
  go_wp2_with fail
  refine (H.out.2.1 _ _ _ _ _ rxs rxs).mono ?_
  rintro e w2 ⟨v, rfl, o1, b1⟩
  obtain ⟨gu, qu, rfl, _, _, ru⟩ := GaveL.form o1 nu
  have rxs := rxs.below b1
  have rb := rb.below b1
  have B0 := B0.trans (b1.mono B0.size)
  clear o1 b1
  go_wp2_with fail
  refine (H.out.2.2 _ _ _ _ _ ru rxs).mono ?_
  rintro e w3 ⟨rfl, hd⟩
  have B0 := B0.trans (hd.below _)
  go_wp2
  go_ret
  exact ⟨rfl, B0⟩
theorem l3Kind_t {n : Nat} {xs : List Int} (h : Rl n xs) (ao : Option Addr) (ca : Nat) (w : World) (hx : Rd w ao xs) : Calls Tryz.prog 37 #[.slice ao xs.length ca, .int .u8 116] w fun e w' => e = .returned (.bool (kindT xs)) ∧ Below w.heap.size w w' := by
  exact l3Kind_t_walk xs (turnL xs) (compL xs xs) (kindT xs) ao ca w (Rl.pos h.turn) (Rl.pos (Rl.comp h h)) hx (fun ao ca w => sTurn h ao ca w) (fun ao bo ca cb w => sComp h h ao bo ca cb w) (fun ao bo ca cb w => sBelow (Rl.comp h h) h ao bo ca cb w)

set_option maxHeartbeats 4000000 in
theorem l3Kind_c_walk (xs b u : List Int) (s : Bool) (ao : Option Addr) (ca : Nat) (w : World) (nb : 1 ≤ b.length) (nu : 1 ≤ u.length) (hx : Rd w ao xs)
    (h1 : ∀ ao ca w, Rd w ao xs → Calls Tryz.prog 54 #[.slice ao xs.length ca] w (GaveL w b))
    (h2 : ∀ ao ca w, Rd w ao xs → Calls Tryz.prog 57 #[.slice ao xs.length ca] w (GaveL w u))
    (h3 : ∀ ao bo ca cb w, Rd w ao u → Rd w bo b → Calls Tryz.prog 55 #[.slice ao u.length ca, .slice bo b.length cb] w fun e w' => e = .returned (.bool s) ∧ Dn w w') :
    Calls Tryz.prog 37 #[.slice ao xs.length ca, .int .u8 99] w fun e w' => e = .returned (.bool s) ∧ Below w.heap.size w w' := by
  have H := Lib.hid (And.intro h1 (And.intro h2 h3))
  clear h1 h2 h3
  have rxs := hx
  clear hx
  have B0 := Below.refl w.heap.size w
  go_enter Tryz.func37, Tryz.ntmps37
  go_wp2_with fail
  refine (H.out.1 _ _ _ rxs).mono ?_
  rintro e w1 ⟨v, rfl, o1, b1⟩
  obtain ⟨gb, qb, rfl, _, _, rb⟩ := GaveL.form o1 nb
  have rxs := rxs.below b1
  have B0 := B0.trans (b1.mono B0.size)
  clear o1 b1
  go_wp2_with fail
  refine (H.out.2.1 _ _ _ rxs).mono ?_
  rintro e w2 ⟨v, rfl, o1, b1⟩
  obtain ⟨gu, qu, rfl, _, _, ru⟩ := GaveL.form o1 nu
  have rxs := rxs.below b1
  have rb := rb.below b1
  have B0 := B0.trans (b1.mono B0.size)
  clear o1 b1
  go_wp2_with fail
  refine (H.out.2.2 _ _ _ _ _ ru rb).mono ?_
  rintro e w3 ⟨rfl, hd⟩
  have B0 := B0.trans (hd.below _)
  go_wp2
  go_ret
  exact ⟨rfl, B0⟩
theorem l3Kind_c {n : Nat} {xs : List Int} (h : Rl n xs) (ao : Option Addr) (ca : Nat) (w : World) (hx : Rd w ao xs) : Calls Tryz.prog 37 #[.slice ao xs.length ca, .int .u8 99] w fun e w' => e = .returned (.bool (kindC xs)) ∧ Below w.heap.size w w' := by
  exact l3Kind_c_walk xs (turnL xs) (otherL xs) (kindC xs) ao ca w (Rl.pos h.turn) (Rl.pos (Rl.other h)) hx (fun ao ca w => sTurn h ao ca w) (fun ao ca w => sOther h ao ca w) (fun ao bo ca cb w => sBelow (Rl.other h) h.turn ao bo ca cb w)

set_option maxHeartbeats 4000000 in
theorem l3Kind_f_walk (xs b u v : List Int) (s : Bool) (ao : Option Addr) (ca : Nat) (w : World) (nb : 1 ≤ b.length) (nu : 1 ≤ u.length) (nv : 1 ≤ v.length) (hx : Rd w ao xs)
    (h1 : ∀ ao ca w, Rd w ao xs → Calls Tryz.prog 54 #[.slice ao xs.length ca] w (GaveL w b))
    (h2 : ∀ ao bo ca cb w, Rd w ao b → Rd w bo xs → Calls Tryz.prog 59 #[.slice ao b.length ca, .slice bo xs.length cb] w (GaveL w u))
    (h3 : ∀ w, Calls Tryz.prog 56 #[.int .i64 xs.length] w (GaveL w v))
    (h4 : ∀ ao bo ca cb w, Rd w ao u → Rd w bo v → Calls Tryz.prog 55 #[.slice ao u.length ca, .slice bo v.length cb] w fun e w' => e = .returned (.bool s) ∧ Dn w w') :
    Calls Tryz.prog 37 #[.slice ao xs.length ca, .int .u8 102] w fun e w' => e = .returned (.bool s) ∧ Below w.heap.size w w' := by
  have H := Lib.hid (And.intro h1 (And.intro h2 (And.intro h3 h4)))
  clear h1 h2 h3 h4
  have rxs := hx
  clear hx
  have B0 := Below.refl w.heap.size w
  go_enter Tryz.func37, Tryz.ntmps37
  go_wp2_with fail
  refine (H.out.1 _ _ _ rxs).mono ?_
  rintro e w1 ⟨v, rfl, o1, b1⟩
  obtain ⟨gb, qb, rfl, _, _, rb⟩ := GaveL.form o1 nb
  have rxs := rxs.below b1
  have B0 := B0.trans (b1.mono B0.size)
  clear o1 b1
  go_wp2_with fail
  refine (H.out.2.1 _ _ _ _ _ rb rxs).mono ?_
  rintro e w2 ⟨v, rfl, o1, b1⟩
  obtain ⟨gu, qu, rfl, _, _, ru⟩ := GaveL.form o1 nu
  have rxs := rxs.below b1
  have rb := rb.below b1
  have B0 := B0.trans (b1.mono B0.size)
  clear o1 b1
  go_wp2_with fail
  refine (H.out.2.2.1 _).mono ?_
  rintro e w3 ⟨v, rfl, o1, b1⟩
  obtain ⟨gv, qv, rfl, _, _, rv⟩ := GaveL.form o1 nv
  have rxs := rxs.below b1
  have rb := rb.below b1
  have ru := ru.below b1
  have B0 := B0.trans (b1.mono B0.size)
  clear o1 b1
  go_wp2_with fail
  refine (H.out.2.2.2 _ _ _ _ _ ru rv).mono ?_
  rintro e w4 ⟨rfl, hd⟩
  have B0 := B0.trans (hd.below _)
  go_wp2
  go_ret
  exact ⟨rfl, B0⟩
theorem l3Kind_f {n : Nat} {xs : List Int} (h : Rl n xs) (ao : Option Addr) (ca : Nat) (w : World) (hx : Rd w ao xs) : Calls Tryz.prog 37 #[.slice ao xs.length ca, .int .u8 102] w fun e w' => e = .returned (.bool (kindF xs)) ∧ Below w.heap.size w w' := by
  have hs : Rl n (sameL xs.length) := by rw [h.len]; exact Rl.same h.one h.four
  exact l3Kind_f_walk xs (turnL xs) (compL (turnL xs) xs) (sameL xs.length) (kindF xs) ao ca w (Rl.pos h.turn) (Rl.pos (Rl.comp h.turn h)) (Rl.pos hs) hx (fun ao ca w => sTurn h ao ca w) (fun ao bo ca cb w => sComp h.turn h ao bo ca cb w) (fun w => sSame h w) (fun ao bo ca cb w => sBelow (Rl.comp h.turn h) hs ao bo ca cb w)

set_option maxHeartbeats 4000000 in
theorem l3Kind_d_walk (xs b u v : List Int) (s : Bool) (ao : Option Addr) (ca : Nat) (w : World) (nb : 1 ≤ b.length) (nu : 1 ≤ u.length) (nv : 1 ≤ v.length) (hx : Rd w ao xs)
    (h1 : ∀ ao ca w, Rd w ao xs → Calls Tryz.prog 54 #[.slice ao xs.length ca] w (GaveL w b))
    (h2 : ∀ w, Calls Tryz.prog 56 #[.int .i64 xs.length] w (GaveL w u))
    (h3 : ∀ ao bo ca cb w, Rd w ao xs → Rd w bo b → Calls Tryz.prog 59 #[.slice ao xs.length ca, .slice bo b.length cb] w (GaveL w v))
    (h4 : ∀ ao bo ca cb w, Rd w ao u → Rd w bo v → Calls Tryz.prog 55 #[.slice ao u.length ca, .slice bo v.length cb] w fun e w' => e = .returned (.bool s) ∧ Dn w w') :
    Calls Tryz.prog 37 #[.slice ao xs.length ca, .int .u8 100] w fun e w' => e = .returned (.bool s) ∧ Below w.heap.size w w' := by
  have H := Lib.hid (And.intro h1 (And.intro h2 (And.intro h3 h4)))
  clear h1 h2 h3 h4
  have rxs := hx
  clear hx
  have B0 := Below.refl w.heap.size w
  go_enter Tryz.func37, Tryz.ntmps37
  go_wp2_with fail
  refine (H.out.1 _ _ _ rxs).mono ?_
  rintro e w1 ⟨v, rfl, o1, b1⟩
  obtain ⟨gb, qb, rfl, _, _, rb⟩ := GaveL.form o1 nb
  have rxs := rxs.below b1
  have B0 := B0.trans (b1.mono B0.size)
  clear o1 b1
  go_wp2_with fail
  refine (H.out.2.1 _).mono ?_
  rintro e w2 ⟨v, rfl, o1, b1⟩
  obtain ⟨gu, qu, rfl, _, _, ru⟩ := GaveL.form o1 nu
  have rxs := rxs.below b1
  have rb := rb.below b1
  have B0 := B0.trans (b1.mono B0.size)
  clear o1 b1
  go_wp2_with fail
  refine (H.out.2.2.1 _ _ _ _ _ rxs rb).mono ?_
  rintro e w3 ⟨v, rfl, o1, b1⟩
  obtain ⟨gv, qv, rfl, _, _, rv⟩ := GaveL.form o1 nv
  have rxs := rxs.below b1
  have rb := rb.below b1
  have ru := ru.below b1
  have B0 := B0.trans (b1.mono B0.size)
  clear o1 b1
  go_wp2_with fail
  refine (H.out.2.2.2 _ _ _ _ _ ru rv).mono ?_
  rintro e w4 ⟨rfl, hd⟩
  have B0 := B0.trans (hd.below _)
  go_wp2
  go_ret
  exact ⟨rfl, B0⟩
theorem l3Kind_d {n : Nat} {xs : List Int} (h : Rl n xs) (ao : Option Addr) (ca : Nat) (w : World) (hx : Rd w ao xs) : Calls Tryz.prog 37 #[.slice ao xs.length ca, .int .u8 100] w fun e w' => e = .returned (.bool (kindD xs)) ∧ Below w.heap.size w w' := by
  have hs : Rl n (sameL xs.length) := by rw [h.len]; exact Rl.same h.one h.four
  exact l3Kind_d_walk xs (turnL xs) (sameL xs.length) (compL xs (turnL xs)) (kindD xs) ao ca w (Rl.pos h.turn) (Rl.pos hs) (Rl.pos (Rl.comp h h.turn)) hx (fun ao ca w => sTurn h ao ca w) (fun w => sSame h w) (fun ao bo ca cb w => sComp h h.turn ao bo ca cb w) (fun ao bo ca cb w => sBelow hs (Rl.comp h h.turn) ao bo ca cb w)

set_option maxHeartbeats 4000000 in
theorem l3Kind_j_walk (xs b u v : List Int) (s : Bool) (ao : Option Addr) (ca : Nat) (w : World) (nb : 1 ≤ b.length) (nu : 1 ≤ u.length) (nv : 1 ≤ v.length) (hx : Rd w ao xs)
    (h1 : ∀ ao ca w, Rd w ao xs → Calls Tryz.prog 54 #[.slice ao xs.length ca] w (GaveL w b))
    (h2 : ∀ ao bo ca cb w, Rd w ao xs → Rd w bo b → Calls Tryz.prog 59 #[.slice ao xs.length ca, .slice bo b.length cb] w (GaveL w u))
    (h3 : ∀ w, Calls Tryz.prog 56 #[.int .i64 xs.length] w (GaveL w v))
    (h4 : ∀ ao bo ca cb w, Rd w ao u → Rd w bo v → Calls Tryz.prog 55 #[.slice ao u.length ca, .slice bo v.length cb] w fun e w' => e = .returned (.bool s) ∧ Dn w w') :
    Calls Tryz.prog 37 #[.slice ao xs.length ca, .int .u8 106] w fun e w' => e = .returned (.bool s) ∧ Below w.heap.size w w' := by
  have H := Lib.hid (And.intro h1 (And.intro h2 (And.intro h3 h4)))
  clear h1 h2 h3 h4
  have rxs := hx
  clear hx
  have B0 := Below.refl w.heap.size w
  go_enter Tryz.func37, Tryz.ntmps37
  go_wp2_with fail
  refine (H.out.1 _ _ _ rxs).mono ?_
  rintro e w1 ⟨v, rfl, o1, b1⟩
  obtain ⟨gb, qb, rfl, _, _, rb⟩ := GaveL.form o1 nb
  have rxs := rxs.below b1
  have B0 := B0.trans (b1.mono B0.size)
  clear o1 b1
  go_wp2_with fail
  refine (H.out.2.1 _ _ _ _ _ rxs rb).mono ?_
  rintro e w2 ⟨v, rfl, o1, b1⟩
  obtain ⟨gu, qu, rfl, _, _, ru⟩ := GaveL.form o1 nu
  have rxs := rxs.below b1
  have rb := rb.below b1
  have B0 := B0.trans (b1.mono B0.size)
  clear o1 b1
  go_wp2_with fail
  refine (H.out.2.2.1 _).mono ?_
  rintro e w3 ⟨v, rfl, o1, b1⟩
  obtain ⟨gv, qv, rfl, _, _, rv⟩ := GaveL.form o1 nv
  have rxs := rxs.below b1
  have rb := rb.below b1
  have ru := ru.below b1
  have B0 := B0.trans (b1.mono B0.size)
  clear o1 b1
  go_wp2_with fail
  refine (H.out.2.2.2 _ _ _ _ _ ru rv).mono ?_
  rintro e w4 ⟨rfl, hd⟩
  have B0 := B0.trans (hd.below _)
  go_wp2
  go_ret
  exact ⟨rfl, B0⟩
theorem l3Kind_j {n : Nat} {xs : List Int} (h : Rl n xs) (ao : Option Addr) (ca : Nat) (w : World) (hx : Rd w ao xs) : Calls Tryz.prog 37 #[.slice ao xs.length ca, .int .u8 106] w fun e w' => e = .returned (.bool (kindJ xs)) ∧ Below w.heap.size w w' := by
  have hs : Rl n (sameL xs.length) := by rw [h.len]; exact Rl.same h.one h.four
  exact l3Kind_j_walk xs (turnL xs) (compL xs (turnL xs)) (sameL xs.length) (kindJ xs) ao ca w (Rl.pos h.turn) (Rl.pos (Rl.comp h h.turn)) (Rl.pos hs) hx (fun ao ca w => sTurn h ao ca w) (fun ao bo ca cb w => sComp h h.turn ao bo ca cb w) (fun w => sSame h w) (fun ao bo ca cb w => sBelow (Rl.comp h h.turn) hs ao bo ca cb w)

set_option maxHeartbeats 4000000 in
theorem l3Kind_o_walk (xs b u v : List Int) (s : Bool) (ao : Option Addr) (ca : Nat) (w : World) (nb : 1 ≤ b.length) (nu : 1 ≤ u.length) (nv : 1 ≤ v.length) (hx : Rd w ao xs)
    (h1 : ∀ ao ca w, Rd w ao xs → Calls Tryz.prog 54 #[.slice ao xs.length ca] w (GaveL w b))
    (h2 : ∀ w, Calls Tryz.prog 56 #[.int .i64 xs.length] w (GaveL w u))
    (h3 : ∀ ao bo ca cb w, Rd w ao b → Rd w bo xs → Calls Tryz.prog 59 #[.slice ao b.length ca, .slice bo xs.length cb] w (GaveL w v))
    (h4 : ∀ ao bo ca cb w, Rd w ao u → Rd w bo v → Calls Tryz.prog 55 #[.slice ao u.length ca, .slice bo v.length cb] w fun e w' => e = .returned (.bool s) ∧ Dn w w') :
    Calls Tryz.prog 37 #[.slice ao xs.length ca, .int .u8 111] w fun e w' => e = .returned (.bool s) ∧ Below w.heap.size w w' := by
  have H := Lib.hid (And.intro h1 (And.intro h2 (And.intro h3 h4)))
  clear h1 h2 h3 h4
  have rxs := hx
  clear hx
  have B0 := Below.refl w.heap.size w
  go_enter Tryz.func37, Tryz.ntmps37
  go_wp2_with fail
  refine (H.out.1 _ _ _ rxs).mono ?_
  rintro e w1 ⟨v, rfl, o1, b1⟩
  obtain ⟨gb, qb, rfl, _, _, rb⟩ := GaveL.form o1 nb
  have rxs := rxs.below b1
  have B0 := B0.trans (b1.mono B0.size)
  clear o1 b1
  go_wp2_with fail
  refine (H.out.2.1 _).mono ?_
  rintro e w2 ⟨v, rfl, o1, b1⟩
  obtain ⟨gu, qu, rfl, _, _, ru⟩ := GaveL.form o1 nu
  have rxs := rxs.below b1
  have rb := rb.below b1
  have B0 := B0.trans (b1.mono B0.size)
  clear o1 b1
  go_wp2_with fail
  refine (H.out.2.2.1 _ _ _ _ _ rb rxs).mono ?_
  rintro e w3 ⟨v, rfl, o1, b1⟩
  obtain ⟨gv, qv, rfl, _, _, rv⟩ := GaveL.form o1 nv
  have rxs := rxs.below b1
  have rb := rb.below b1
  have ru := ru.below b1
  have B0 := B0.trans (b1.mono B0.size)
  clear o1 b1
  go_wp2_with fail
  refine (H.out.2.2.2 _ _ _ _ _ ru rv).mono ?_
  rintro e w4 ⟨rfl, hd⟩
  have B0 := B0.trans (hd.below _)
  go_wp2
  go_ret
  exact ⟨rfl, B0⟩
theorem l3Kind_o {n : Nat} {xs : List Int} (h : Rl n xs) (ao : Option Addr) (ca : Nat) (w : World) (hx : Rd w ao xs) : Calls Tryz.prog 37 #[.slice ao xs.length ca, .int .u8 111] w fun e w' => e = .returned (.bool (kindO xs)) ∧ Below w.heap.size w w' := by
  have hs : Rl n (sameL xs.length) := by rw [h.len]; exact Rl.same h.one h.four
  exact l3Kind_o_walk xs (turnL xs) (sameL xs.length) (compL (turnL xs) xs) (kindO xs) ao ca w (Rl.pos h.turn) (Rl.pos hs) (Rl.pos (Rl.comp h.turn h)) hx (fun ao ca w => sTurn h ao ca w) (fun w => sSame h w) (fun ao bo ca cb w => sComp h.turn h ao bo ca cb w) (fun ao bo ca cb w => sBelow hs (Rl.comp h.turn h) ao bo ca cb w)

theorem l3Kind_any {n : Nat} {xs : List Int} (h : Rl n xs) (c : Nat) (hc : c = 114 ∨ c = 105 ∨ c = 115 ∨ c = 97 ∨ c = 116 ∨ c = 99 ∨ c = 102 ∨ c = 100 ∨ c = 106 ∨ c = 111) (ao : Option Addr) (ca : Nat) (w : World) (hx : Rd w ao xs) :
    Calls Tryz.prog 37 #[.slice ao xs.length ca, .int .u8 (c : Int)] w fun e w' => e = .returned (.bool (kindB c xs)) ∧ Below w.heap.size w w' := by
  rcases hc with rfl | rfl | rfl | rfl | rfl | rfl | rfl | rfl | rfl | rfl
  · exact l3Kind_r h ao ca w hx
  · exact l3Kind_i h ao ca w hx
  · exact l3Kind_s h ao ca w hx
  · exact l3Kind_a h ao ca w hx
  · exact l3Kind_t h ao ca w hx
  · exact l3Kind_c h ao ca w hx
  · exact l3Kind_f h ao ca w hx
  · exact l3Kind_d h ao ca w hx
  · exact l3Kind_j h ao ca w hx
  · exact l3Kind_o h ao ca w hx
end Go.Proofs.YtebkeebgjjmdbaaGreatDoor
