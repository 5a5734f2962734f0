/-
  Facts of programs on sets of states: afters, befores, tests, loops, kept and largest sets; and contracts of the program's functions where they succeed.
-/
import Derived.Test.YtcdiicckngndcabPQ
namespace Go.Proofs.Ytcdiicckngndcab
open Go.RowKit

theorem bP_in : ∀ n : Fin 5, ∀ u : Fin 16, u.val < 2 ^ n.val → rowIn n.val (u.val : Int) = true := by decide +kernel
theorem St.inn {n : Nat} {z : Int} (h4 : n ≤ 4) (h : St n z) : rowIn n z = true := by
  obtain ⟨u, rfl, hu⟩ := h
  exact bP_in ⟨n, by omega⟩ u hu
theorem set_yes {n : Nat} {xs : List Int} {z : Int} (R : Rl n xs) (hz : St n z) : setB xs z = true := by
  unfold setB
  rw [R.ok, Bool.true_and, R.len]
  exact hz.inn R.four
theorem rl_short8 {n : Nat} {xs : List Int} (R : Rl n xs) : xs.length ≤ 1048576 := by
  have := R.len
  have := R.four
  omega

/-! contracts -/
theorem pAfter {n : Nat} {xs : List Int} {z r : Int} (R : Rl n xs) (hz : St n z) (hr : imgA xs z = r) (ao : Option Addr) (ca : Nat) (w : World) (hx : Rd w ao xs) :
    Calls Try.prog 13 #[.slice ao xs.length ca, .int .i64 z] w fun e w' => e = .returned (.tuple #[.int .i64 r, .bool true]) ∧ Below w.heap.size w w' := by
  have h := implProgAfter_any ao ca xs z w (rl_short8 R) hx
  unfold setI at h
  rw [set_yes R hz, if_pos rfl, hr] at h
  exact h
theorem pBefore {n : Nat} {xs : List Int} {z r : Int} (R : Rl n xs) (hz : St n z) (hr : imgA (turnL xs) z = r) (ao : Option Addr) (ca : Nat) (w : World) (hx : Rd w ao xs) :
    Calls Try.prog 16 #[.slice ao xs.length ca, .int .i64 z] w fun e w' => e = .returned (.tuple #[.int .i64 r, .bool true]) ∧ Below w.heap.size w w' := by
  have h := implProgBefore_any ao ca xs z w (rl_short8 R) hx
  unfold setI at h
  rw [set_yes R hz, if_pos rfl, hr] at h
  exact h
theorem pSurely {n : Nat} {xs : List Int} {z r : Int} (R : Rl n xs) (hz : St n z) (hr : surA n xs z = r) (ao : Option Addr) (ca : Nat) (w : World) (hx : Rd w ao xs) :
    Calls Try.prog 20 #[.slice ao xs.length ca, .int .i64 z] w fun e w' => e = .returned (.tuple #[.int .i64 r, .bool true]) ∧ Below w.heap.size w w' := by
  have h := implProgSurely_any ao ca xs z w (rl_short8 R) hx
  unfold setI at h
  rw [set_yes R hz, if_pos rfl] at h
  rw [← R.len] at hr
  rw [hr] at h
  exact h
theorem pKept {n : Nat} {xs : List Int} {z r : Int} (R : Rl n xs) (hz : St n z) (hr : imgA (starL xs) z = r) (ao : Option Addr) (ca : Nat) (w : World) (hx : Rd w ao xs) :
    Calls Try.prog 38 #[.slice ao xs.length ca, .int .i64 z] w fun e w' => e = .returned (.tuple #[.int .i64 r, .bool true]) ∧ Below w.heap.size w w' := by
  have h := implProgKept_any ao ca xs z w (rl_short8 R) hx
  unfold setI at h
  rw [set_yes R hz, if_pos rfl, hr] at h
  exact h
theorem pLargest {n : Nat} {xs : List Int} {z r : Int} (R : Rl n xs) (hz : St n z) (hr : surA n (starL xs) z = r) (ao : Option Addr) (ca : Nat) (w : World) (hx : Rd w ao xs) :
    Calls Try.prog 36 #[.slice ao xs.length ca, .int .i64 z] w fun e w' => e = .returned (.tuple #[.int .i64 r, .bool true]) ∧ Below w.heap.size w w' := by
  have h := implProgLargest_any ao ca xs z w (rl_short8 R) hx
  unfold setI at h
  rw [set_yes R hz, if_pos rfl] at h
  rw [← R.len] at hr
  rw [hr] at h
  exact h
theorem pTriple {n : Nat} {xs : List Int} {p q : Int} {b : Bool} (R : Rl n xs) (hb : triB p xs q = b) (ao : Option Addr) (ca : Nat) (w : World) (hx : Rd w ao xs) :
    Calls Try.prog 17 #[.int .i64 p, .slice ao xs.length ca, .int .i64 q] w fun e w' => e = .returned (.bool b) ∧ Below w.heap.size w w' := by
  have h := implProgTriple_any ao ca p xs q w (rl_short8 R) hx
  rw [hb] at h
  exact h
theorem pIf {n : Nat} {xs ys rs : List Int} {z : Int} (R : Rl n xs) (K : Rl n ys) (hz : St n z) (hr : ifL z xs ys = rs) (ao bo : Option Addr) (ca cb : Nat) (w : World) (hx : Rd w ao xs) (hy : Rd w bo ys) :
    Calls Try.prog 26 #[.int .i64 z, .slice ao xs.length ca, .slice bo ys.length cb] w (Gave w rs true) := by
  have h := implProgIf_any z ao bo ca cb xs ys w (rl_short8 R) (rl_short8 K) hx hy
  have e : ifB z xs ys = true := by
    unfold ifB twoIn
    rw [R.ok, K.ok, R.len, K.len, hz.inn R.four]
    simp
  rw [e, show ifR true (ifL z xs ys) = ifL z xs ys from rfl, hr] at h
  exact h
theorem pWhile {n : Nat} {xs rs : List Int} {z : Int} (R : Rl n xs) (hz : St n z) (hr : whileL z xs = rs) (ao : Option Addr) (ca : Nat) (w : World) (hx : Rd w ao xs) :
    Calls Try.prog 32 #[.int .i64 z, .slice ao xs.length ca] w (Gave w rs true) := by
  have h := implProgWhile_any z ao ca xs w (rl_short8 R) hx
  rw [set_yes R hz, show ifR true (whileL z xs) = whileL z xs from rfl, hr] at h
  exact h

theorem two8 {n : Nat} {xs ys : List Int} (h : Rl n xs) (k : Rl n ys) : twoIn xs ys = true := by
  unfold twoIn
  rw [h.ok, k.ok, h.len, k.len]
  simp
theorem qTurn {n : Nat} {xs : List Int} (h : Rl n xs) (ao : Option Addr) (ca : Nat) (w : World) (hx : Rd w ao xs) : Calls Try.prog 15 #[.slice ao xs.length ca] w (Gave w (turnL xs) true) := by
  have := implRelTurned_any ao ca xs w (rl_short8 h) hx
  rw [h.ok] at this
  exact this
theorem qComp {n : Nat} {xs ys : List Int} (h : Rl n xs) (k : Rl n ys) (ao bo : Option Addr) (ca cb : Nat) (w : World) (hx : Rd w ao xs) (hy : Rd w bo ys) : Calls Try.prog 34 #[.slice ao xs.length ca, .slice bo ys.length cb] w (Gave w (compL xs ys) true) := by
  have := implCompOf_any ao bo ca cb xs ys w (rl_short8 h) (rl_short8 k) hx hy
  rw [two8 h k] at this
  exact this
theorem qEither {n : Nat} {xs ys : List Int} (h : Rl n xs) (k : Rl n ys) (ao bo : Option Addr) (ca cb : Nat) (w : World) (hx : Rd w ao xs) (hy : Rd w bo ys) : Calls Try.prog 29 #[.slice ao xs.length ca, .slice bo ys.length cb] w (Gave w (eitherL xs ys) true) := by
  have := implRelEither_any ao bo ca cb xs ys w (rl_short8 h) (rl_short8 k) hx hy
  rw [two8 h k] at this
  exact this
theorem qBelow {n : Nat} {xs ys : List Int} (h : Rl n xs) (k : Rl n ys) (hb : belowB xs ys = true) (ao bo : Option Addr) (ca cb : Nat) (w : World) (hx : Rd w ao xs) (hy : Rd w bo ys) : Calls Try.prog 30 #[.slice ao xs.length ca, .slice bo ys.length cb] w fun e w' => e = .returned (.bool true) ∧ Below w.heap.size w w' := by
  have := implRelBelow_any ao bo ca cb xs ys w (rl_short8 h) (rl_short8 k) hx hy
  rw [two8 h k, hb] at this
  exact this
theorem qSame {n : Nat} (h1 : 1 ≤ n) (h4 : n ≤ 4) (w : World) : Calls Try.prog 35 #[.int .i64 n] w (Gave w (sameL n) true) := by
  have := implRelSame_any (n : Int) w
  rw [show inB (n : Int) 1 4 = true from decide_eq_true ⟨by omega, by omega⟩] at this
  exact this

/-! triples -/
theorem tri_iff {n : Nat} {xs : List Int} {p q : Int} (R : Rl n xs) (hp : St n p) (hq : St n q) : triB p xs q = true ↔ ∀ l, l < n → hasB p l = true → ∀ j, j < n → hB xs l j = true → hasB q j = true := by
  unfold triB
  rw [set_yes R hp, set_yes R hq, Bool.and_self, Bool.true_and, St.part R.four (St.img R hp) hq]
  constructor
  · intro g l hl e j hj e2
    exact g j hj ((has_img R hp j hj).2 ⟨l, hl, e, e2⟩)
  · intro g j hj e
    obtain ⟨l, hl, e1, e2⟩ := (has_img R hp j hj).1 e
    exact g l hl e1 j hj e2
theorem tri_after {n : Nat} {xs : List Int} {z : Int} (R : Rl n xs) (hz : St n z) : triB z xs (imgA xs z) = true :=
  (tri_iff R hz (St.img R hz)).2 fun l hl e j hj e2 => (has_img R hz j hj).2 ⟨l, hl, e, e2⟩
theorem tri_surely {n : Nat} {xs : List Int} {z : Int} (R : Rl n xs) (hz : St n z) : triB (surA n xs z) xs z = true :=
  (tri_iff R (St.sur R hz) hz).2 fun l hl e j hj e2 => (has_sur R hz l hl).1 e j hj e2
theorem tri_none {n : Nat} {xs : List Int} {z : Int} (R : Rl n xs) (hz : St n z) (i : Nat) (hi : i < n) (h : hasB (surA n xs z) i = false) : triB (pt i) xs z = false := by
  cases e : triB (pt i) xs z with
  | false => rfl
  | true =>
    have g := (tri_iff R (St.pt R.four i hi) hz).1 e i hi (by rw [has_pt i i (by have := R.four; omega) (by have := R.four; omega)]; exact decide_eq_true rfl)
    rw [(has_sur R hz i hi).2 g] at h
    cases h
theorem part_zero {n : Nat} {y z : Int} (h4 : n ≤ 4) (hy : St n y) (hz : St n z) (h : ∀ j, j < n → hasB y j = true → hasB z j = true) : (bits .andNot .i64 y z == 0) = true :=
  (St.part h4 hy hz).2 h
theorem tri_ends {n : Nat} {xs : List Int} {p q : Int} (R : Rl n xs) (hp : St n p) (hq : St n q) (h : triB p xs q = true) :
    (bits .andNot .i64 (imgA xs p) q == 0) = true ∧ (bits .andNot .i64 p (surA n xs q) == 0) = true := by
  have g := (tri_iff R hp hq).1 h
  refine ⟨part_zero R.four (St.img R hp) hq fun j hj e => ?_, part_zero R.four hp (St.sur R hq) fun l hl e => ?_⟩
  · obtain ⟨l, hl, e1, e2⟩ := (has_img R hp j hj).1 e
    exact g l hl e1 j hj e2
  · exact (has_sur R hq l hl).2 fun j hj e2 => g l hl e j hj e2

/-! others -/
theorem not_not8 {n : Nat} {z : Int} (h4 : n ≤ 4) (hz : St n z) : notA n (notA n z) = z :=
  St.ext h4 (St.not h4 (St.not h4 hz)) hz fun j hj => by rw [St.hasNot h4 (St.not h4 hz) j hj, St.hasNot h4 hz j hj, Bool.not_not]
theorem bP_top : ∀ n : Fin 5, ∀ z : Fin 16, z.val < 2 ^ n.val → ((2 ^ n.val - 1 : Nat) : Int) - (z.val : Int) = notA n.val (z.val : Int) := by decide +kernel
theorem not_sub {n : Nat} {z : Int} (h4 : n ≤ 4) (hz : St n z) : ((2 ^ n - 1 : Nat) : Int) - z = notA n z := by
  obtain ⟨u, rfl, hu⟩ := hz
  exact bP_top ⟨n, by omega⟩ u hu
theorem not_top {n : Nat} (h1 : 1 ≤ n) (h4 : n ≤ 4) (z : Int) : bits .andNot .i64 ((2 ^ n - 1 : Nat) : Int) z = notA n z := by
  unfold notA
  rw [pow_top n h1 h4]
theorem St.top {n : Nat} (h1 : 1 ≤ n) (h4 : n ≤ 4) : St n ((2 ^ n - 1 : Nat) : Int) := by
  rcases (by omega : n = 1 ∨ n = 2 ∨ n = 3 ∨ n = 4) with rfl | rfl | rfl | rfl
  · exact ⟨1, rfl, by decide⟩
  · exact ⟨3, rfl, by decide⟩
  · exact ⟨7, rfl, by decide⟩
  · exact ⟨15, rfl, by decide⟩
theorem St.one {n : Nat} (h1 : 1 ≤ n) : St n 1 := ⟨1, rfl, Nat.lt_of_lt_of_le (by decide : 1 < 2 ^ 1) (Nat.pow_le_pow_right (by decide) h1)⟩
theorem before_others {n : Nat} {xs : List Int} {z : Int} (R : Rl n xs) (hz : St n z) : notA n (surA n xs (notA n z)) = imgA (turnL xs) z := by
  unfold surA
  rw [not_not8 R.four hz, not_not8 R.four (St.img R.turn hz)]

/-! by tests -/
theorem if_turned {n : Nat} {xs ys : List Int} {z : Int} (R : Rl n xs) (K : Rl n ys) (hz : St n z) : ifL (notA n z) ys xs = ifL z xs ys := by
  refine (K.ifL R _).ext (R.ifL K z) fun i j hi hj => ?_
  rw [hB_ifL K _ xs i j hi, hB_ifL R z ys i j hi, St.hasNot R.four hz i hi]
  cases hasB z i
  · rw [Bool.not_false, if_pos rfl, if_neg Bool.false_ne_true]
  · rw [Bool.not_true, if_neg Bool.false_ne_true, if_pos rfl]
theorem if_below {n : Nat} {xs ys : List Int} {z : Int} (R : Rl n xs) (K : Rl n ys) : belowB (ifL z xs ys) (eitherL xs ys) = true := by
  rw [below_iff (R.ifL K z) (R.either K)]
  intro i j hi hj e
  rw [hB_ifL R z ys i j hi] at e
  rw [hB_either R K i j hi hj, Bool.or_eq_true]
  cases hc : hasB z i with
  | true => rw [hc] at e; exact .inl e
  | false => rw [hc] at e; exact .inr e

/-! any number of steps -/
theorem pow_first {xs : List Int} (h : Rl xs.length xs) (t i j : Nat) (hi : i < xs.length) (hj : j < xs.length) (e : hB (powL xs (t + 1)) i j = true) : ∃ l, l < xs.length ∧ hB xs i l = true ∧ hB (powL xs t) l j = true := by
  induction t generalizing j with
  | zero =>
    obtain ⟨l, hl, e1, e2⟩ := (hB_comp (h.pow 0) h i j hi hj).1 e
    have e3 : hB (sameL xs.length) i l = true := e1
    rw [hB_same h.four i l hi hl] at e3
    obtain rfl := of_decide_eq_true e3
    exact ⟨j, hj, e2, by show hB (sameL xs.length) j j = true; rw [hB_same h.four j j hj hj]; exact decide_eq_true rfl⟩
  | succ t ih =>
    obtain ⟨l, hl, e1, e2⟩ := (hB_comp (h.pow (t + 1)) h i j hi hj).1 e
    obtain ⟨m, hm, f1, f2⟩ := ih l hl e1
    exact ⟨m, hm, f1, (hB_comp (h.pow t) h m j hm hj).2 ⟨l, hl, f2, e2⟩⟩
theorem star_at {xs : List Int} (h : Rl xs.length xs) (i : Nat) (hi : i < xs.length) : hB (starL xs) i i = true :=
  (hB_star8 h i i hi hi).2 ⟨0, by show hB (sameL xs.length) i i = true; rw [hB_same h.four i i hi hi]; exact decide_eq_true rfl⟩
theorem star_on {xs : List Int} (h : Rl xs.length xs) (i l j : Nat) (hi : i < xs.length) (hl : l < xs.length) (hj : j < xs.length) (e : hB (starL xs) i l = true) (f : hB (starL xs) l j = true) : hB (starL xs) i j = true := by
  obtain ⟨s, e⟩ := (hB_star8 h i l hi hl).1 e
  obtain ⟨t, f⟩ := (hB_star8 h l j hl hj).1 f
  exact (hB_star8 h i j hi hj).2 ⟨s + t, pow_add h i j hi hj s t l hl e f⟩
theorem star_step {xs : List Int} (h : Rl xs.length xs) (i j : Nat) (hi : i < xs.length) (hj : j < xs.length) (e : hB xs i j = true) : hB (starL xs) i j = true :=
  (hB_star8 h i j hi hj).2 ⟨1, by rw [hB_pow1 h i j hi hj]; exact e⟩
theorem pow_back {xs : List Int} (h : Rl xs.length xs) (t i j : Nat) (hi : i < xs.length) (hj : j < xs.length) (e : hB (powL (turnL xs) t) i j = true) : hB (powL xs t) j i = true := by
  have hT := h.turn
  have hl := hT.len
  have T : Rl (turnL xs).length (turnL xs) := by rw [hl]; exact hT
  induction t generalizing j with
  | zero =>
    have e2 : hB (sameL (turnL xs).length) i j = true := e
    rw [hl, hB_same h.four i j hi hj] at e2
    obtain rfl := of_decide_eq_true e2
    show hB (sameL xs.length) j j = true
    rw [hB_same h.four j j hj hj]
    exact decide_eq_true rfl
  | succ t ih =>
    obtain ⟨l, hl2, e1, e2⟩ := (hB_comp (T.pow t) T i j (by rw [hl]; exact hi) (by rw [hl]; exact hj)).1 e
    rw [hl] at hl2
    have f := ih l hl2 e1
    rw [hB_turn h l j hl2 hj] at e2
    rw [show t + 1 = 1 + t by omega]
    exact pow_add h j i hj hi 1 t l hl2 (by rw [hB_pow1 h j l hj hl2]; exact e2) f
theorem star_back {xs : List Int} (h : Rl xs.length xs) (i j : Nat) (hi : i < xs.length) (hj : j < xs.length) : hB (starL (turnL xs)) i j = hB (starL xs) j i := by
  have hT := h.turn
  have hl := hT.len
  have T : Rl (turnL xs).length (turnL xs) := by rw [hl]; exact hT
  rw [Bool.eq_iff_iff, hB_star8 T i j (by rw [hl]; exact hi) (by rw [hl]; exact hj), hB_star8 h j i hj hi]
  constructor
  · rintro ⟨t, e⟩
    exact ⟨t, pow_back h t i j hi hj e⟩
  · rintro ⟨t, e⟩
    refine ⟨t, ?_⟩
    have := pow_back T t j i (by rw [hl]; exact hj) (by rw [hl]; exact hi)
    rw [turn_turn h] at this
    exact this e
theorem star_turn8 {xs : List Int} (h : Rl xs.length xs) : starL (turnL xs) = turnL (starL xs) := by
  have hT := h.turn
  have hl := hT.len
  have T : Rl (turnL xs).length (turnL xs) := by rw [hl]; exact hT
  have S := T.star
  rw [hl] at S
  refine S.ext h.star.turn fun i j hi hj => ?_
  rw [star_back h i j hi hj, hB_turn h.star i j hi hj]

/-! kept and largest sets -/
theorem kept_all {xs : List Int} {z : Int} (R : Rl xs.length xs) (hz : St xs.length z) : ∃ o, imgA (starL xs) z = o ∧ St xs.length o ∧ imgA (starL xs) o = o ∧ (bits .andNot .i64 z o == 0) = true ∧ triB o xs o = true := by
  have S := R.star
  have ho := St.img S hz
  refine ⟨_, rfl, ho, St.ext R.four (St.img S ho) ho fun j hj => ?_, part_zero R.four hz ho fun j hj e => (has_img S hz j hj).2 ⟨j, hj, e, star_at R j hj⟩, (tri_iff R ho ho).2 fun l hl e j hj e2 => ?_⟩
  · rw [Bool.eq_iff_iff, has_img S ho j hj]
    constructor
    · rintro ⟨l, hl, e, e2⟩
      obtain ⟨m, hm, f, f2⟩ := (has_img S hz l hl).1 e
      exact (has_img S hz j hj).2 ⟨m, hm, f, star_on R m l j hm hl hj f2 e2⟩
    · intro e
      exact ⟨j, hj, e, star_at R j hj⟩
  · obtain ⟨m, hm, f, f2⟩ := (has_img S hz l hl).1 e
    exact (has_img S hz j hj).2 ⟨m, hm, f, star_on R m l j hm hl hj f2 (star_step R l j hl hj e2)⟩
theorem largest_all {xs : List Int} {z : Int} (R : Rl xs.length xs) (hz : St xs.length z) : ∃ o, surA xs.length (starL xs) z = o ∧ St xs.length o ∧ imgA (starL (turnL xs)) (notA xs.length z) = notA xs.length o ∧ (bits .andNot .i64 o z == 0) = true ∧ triB o xs o = true := by
  have S := R.star
  have ho := St.sur S hz
  refine ⟨_, rfl, ho, ?_, part_zero R.four ho hz fun j hj e => (has_sur S hz j hj).1 e j hj (star_at R j hj), (tri_iff R ho ho).2 fun l hl e j hj e2 => ?_⟩
  · rw [star_turn8 R]
    unfold surA
    rw [not_not8 R.four (St.img S.turn (St.not R.four hz))]
  · exact (has_sur S hz j hj).2 fun m hm e3 => (has_sur S hz l hl).1 e m hm (star_on R l j m hl hj hm (star_step R l j hl hj e2) e3)

/-! loops -/
theorem bit_zero {n : Nat} (h4 : n ≤ 4) {z : Int} (hz : St n z) (k : Nat) (hk : k < n) : (bits .and .i64 (z / 2 ^ k) 1 == 0) = !hasB z k := by
  have key : ∀ z : Fin 16, ∀ k : Fin 4, (bits .and .i64 ((z.val : Int) / 2 ^ k.val) 1 == 0) = !hasB (z.val : Int) k.val := by decide +kernel
  obtain ⟨u, rfl, _⟩ := hz
  exact key u ⟨k, by omega⟩
theorem wi_rl {xs : List Int} (R : Rl xs.length xs) (z : Int) : Rl (wiL z xs).length (wiL z xs) := by rw [wi_len]; exact R.wi z
theorem hB_while {xs : List Int} {z : Int} (R : Rl xs.length xs) (hz : St xs.length z) (i j : Nat) (hi : i < xs.length) (hj : j < xs.length) : hB (whileL z xs) i j = (hB (starL (wiL z xs)) i j && !hasB z j) := by
  have hr := St.row (R.wiStar z) i
  show hasB (rowAt (whileL z xs) i) j = _
  rw [while_row R z i hi, St.hasLess R.four hr hz j (by have := R.four; omega)]
  rfl
theorem while_stays {xs : List Int} {z : Int} (R : Rl xs.length xs) (i j : Nat) (hi : i < xs.length) (hj : j < xs.length) (hc : hasB z i = false) (e : hB (starL (wiL z xs)) i j = true) : j = i := by
  have U := wi_rl R z
  have hl := wi_len z xs
  obtain ⟨t, e⟩ := (hB_star8 U i j (by rw [hl]; exact hi) (by rw [hl]; exact hj)).1 e
  cases t with
  | zero =>
    have e2 : hB (sameL (wiL z xs).length) i j = true := e
    rw [hl, hB_same R.four i j hi hj] at e2
    exact of_decide_eq_true e2
  | succ t =>
    obtain ⟨l, hl2, e1, _⟩ := pow_first U t i j (by rw [hl]; exact hi) (by rw [hl]; exact hj) e
    rw [hl] at hl2
    rw [hB_wi R z i l hi hl2, hc] at e1
    cases e1
/-- going on is a step and going on -/
theorem while_if {xs : List Int} {z : Int} (R : Rl xs.length xs) (hz : St xs.length z) : ifL z (compL xs (whileL z xs)) (sameL xs.length) = whileL z xs := by
  have h4 := R.four
  have W := R.while hz
  have C := R.comp W
  have hl := wi_len z xs
  have U := wi_rl R z
  refine (C.ifL (Rl.same R.one h4) z).ext W fun i j hi hj => ?_
  rw [hB_ifL C z _ i j hi]
  cases hc : hasB z i with
  | false =>
    rw [if_neg Bool.false_ne_true, hB_same h4 i j hi hj, hB_while R hz i j hi hj, Bool.eq_iff_iff, decide_eq_true_iff, Bool.and_eq_true]
    constructor
    · rintro rfl
      exact ⟨star_at U j (by rw [hl]; exact hj), by rw [hc]; rfl⟩
    · rintro ⟨e, _⟩
      exact while_stays R i j hi hj hc e
  | true =>
    rw [if_pos rfl, Bool.eq_iff_iff, hB_comp R W i j hi hj, hB_while R hz i j hi hj, Bool.and_eq_true]
    constructor
    · rintro ⟨l, hl2, e, e2⟩
      rw [hB_while R hz l j hl2 hj, Bool.and_eq_true] at e2
      exact ⟨star_on U i l j (by rw [hl]; exact hi) (by rw [hl]; exact hl2) (by rw [hl]; exact hj) (star_step U i l (by rw [hl]; exact hi) (by rw [hl]; exact hl2) (by rw [hB_wi R z i l hi hl2, hc]; exact e)) e2.1, e2.2⟩
    · rintro ⟨e, e2⟩
      obtain ⟨t, e⟩ := (hB_star8 U i j (by rw [hl]; exact hi) (by rw [hl]; exact hj)).1 e
      cases t with
      | zero =>
        have e3 : hB (sameL (wiL z xs).length) i j = true := e
        rw [hl, hB_same h4 i j hi hj] at e3
        obtain rfl := of_decide_eq_true e3
        rw [hc] at e2
        cases e2
      | succ t =>
        obtain ⟨l, hl2, e3, e4⟩ := pow_first U t i j (by rw [hl]; exact hi) (by rw [hl]; exact hj) e
        rw [hl] at hl2
        have e5 := e3
        rw [hB_wi R z i l hi hl2, hc] at e5
        exact ⟨l, hl2, e5, by rw [hB_while R hz l j hl2 hj, (hB_star8 U l j (by rw [hl]; exact hl2) (by rw [hl]; exact hj)).2 ⟨t, e4⟩]; exact e2⟩
theorem wi_star {xs : List Int} {z : Int} (R : Rl xs.length xs) (t i j : Nat) (hi : i < xs.length) (hj : j < xs.length) (e : hB (powL (wiL z xs) t) i j = true) : hB (starL xs) i j = true := by
  have U := wi_rl R z
  have hl := wi_len z xs
  induction t generalizing j with
  | zero =>
    have e2 : hB (sameL (wiL z xs).length) i j = true := e
    rw [hl, hB_same R.four i j hi hj] at e2
    obtain rfl := of_decide_eq_true e2
    exact star_at R j hj
  | succ t ih =>
    obtain ⟨l, hl2, e1, e2⟩ := (hB_comp (U.pow t) U i j (by rw [hl]; exact hi) (by rw [hl]; exact hj)).1 e
    rw [hl] at hl2
    rw [hB_wi R z l j hl2 hj, Bool.and_eq_true] at e2
    exact star_on R i l j hi hl2 hj (ih l hl2 e1) (star_step R l j hl2 hj e2.2)
/-- going on leads outside of the test, and keeps what steps keep -/
theorem while_outs {xs : List Int} {z : Int} (R : Rl xs.length xs) (hz : St xs.length z) : ∃ k, surA xs.length (starL xs) (notA xs.length 1) = k ∧ triB ((2 ^ xs.length - 1 : Nat) : Int) (whileL z xs) (notA xs.length z) = true ∧ triB k (whileL z xs) k = true := by
  have h4 := R.four
  have W := R.while hz
  have S := R.star
  have hn := St.not h4 (St.one R.one)
  have hk := St.sur S hn
  have U := wi_rl R z
  have hl := wi_len z xs
  refine ⟨_, rfl, (tri_iff W (St.top R.one h4) (St.not h4 hz)).2 fun l hl2 _ j hj e => ?_, (tri_iff W hk hk).2 fun l hl2 e j hj e2 => ?_⟩
  · rw [hB_while R hz l j hl2 hj, Bool.and_eq_true] at e
    rw [St.hasNot h4 hz j hj]
    exact e.2
  · rw [hB_while R hz l j hl2 hj, Bool.and_eq_true] at e2
    obtain ⟨t, e3⟩ := (hB_star8 U l j (by rw [hl]; exact hl2) (by rw [hl]; exact hj)).1 e2.1
    have e4 := wi_star R t l j hl2 hj e3
    exact (has_sur S hn j hj).2 fun m hm e5 => (has_sur S hn l hl2).1 e m hm (star_on R l j m hl2 hj hm e4 e5)
end Go.Proofs.Ytcdiicckngndcab
