/-
  Facts and contracts for laws on drawn equivalences: meets, joins, kernels, quotients, kept ones.
-/
import Derived.Test.YtghkeaepjckcdaaGB
import Derived.Test.YtghkeaepjckcdaaHS
import Derived.Test.YtghkeaepjckcdaaJJ
import Derived.Test.YtghkeaepjckcdaaJM
import Derived.Test.YtghkeaepjckcdaaJH
import Derived.Test.YtghkeaepjckcdaaJO
namespace Go.Proofs.Ytghkeaepjckcdaa
open Go.RowKit

theorem eqv_ok {n : Nat} {xs : List Int} (E : Eqv n xs) : equB xs = true := by
  obtain rfl := E.rl.len
  exact (equ_iff xs).2 E
theorem eqv_two {n : Nat} {xs ys : List Int} (E : Eqv n xs) (F : Eqv n ys) : twoEq xs ys = true := by
  unfold twoEq
  rw [two_ok E.rl F.rl, eqv_ok E, eqv_ok F]
  rfl
theorem two_eqv {xs ys : List Int} (h : twoEq xs ys = true) : Eqv xs.length xs ∧ Eqv xs.length ys := by
  obtain ⟨h1, h2, h3⟩ := twoEq_yes h
  have e := (two_rl h1).2.len
  refine ⟨(equ_iff xs).1 h2, ?_⟩
  have := (equ_iff ys).1 h3
  rw [e] at this
  exact this
def joinR (xs ys : List Int) : List Int := reachL (compL xs ys)
theorem hB_join {n : Nat} {xs ys : List Int} (E : Eqv n xs) (F : Eqv n ys) (i j : Nat) (hi : i < n) (hj : j < n) : hB (joinR xs ys) i j = decide (rt (linkAcc (pairsOf (eitherL xs ys))) i = rt (linkAcc (pairsOf (eitherL xs ys))) j) := by
  unfold joinR
  rw [← join_eq E F]
  exact hB_test E.rl.one E.rl.four _ i j hi hj
theorem Eqv.join {n : Nat} {xs ys : List Int} (E : Eqv n xs) (F : Eqv n ys) : Eqv n (joinR xs ys) := by
  refine ⟨?_, ?_, ?_, ?_⟩
  · unfold joinR
    rw [← join_eq E F]
    exact Rl.test E.rl.one E.rl.four _
  · intro i hi
    rw [hB_join E F i i hi hi]
    exact decide_eq_true rfl
  · intro i j hi hj h
    rw [hB_join E F i j hi hj] at h
    rw [hB_join E F j i hj hi]
    exact decide_eq_true (of_decide_eq_true h).symm
  · intro i j k hi hj hk h h2
    rw [hB_join E F i j hi hj] at h
    rw [hB_join E F j k hj hk] at h2
    rw [hB_join E F i k hi hk]
    exact decide_eq_true ((of_decide_eq_true h).trans (of_decide_eq_true h2))
theorem join_has1 {n : Nat} {xs ys : List Int} (E : Eqv n xs) (F : Eqv n ys) : sub n xs (joinR xs ys) := by
  intro i j hi hj h
  rw [hB_join E F i j hi hj]
  exact decide_eq_true (link_has (E.rl.either F.rl) i j hi hj (by rw [hB_either E.rl F.rl i j hi hj, h]; rfl))
theorem join_has2 {n : Nat} {xs ys : List Int} (E : Eqv n xs) (F : Eqv n ys) : sub n ys (joinR xs ys) := by
  intro i j hi hj h
  rw [hB_join E F i j hi hj]
  exact decide_eq_true (link_has (E.rl.either F.rl) i j hi hj (by rw [hB_either E.rl F.rl i j hi hj, h, Bool.or_true]))
theorem join_sub {n : Nat} {xs ys zs : List Int} (E : Eqv n xs) (F : Eqv n ys) (G : Eqv n zs) (h1 : sub n xs zs) (h2 : sub n ys zs) : sub n (joinR xs ys) zs := by
  intro i j hi hj h
  rw [hB_join E F i j hi hj] at h
  refine link_iff (E.rl.either F.rl) (fun i j => hB zs i j = true) G.refl G.symm G.trans (fun i j hi hj h => ?_) i j hi hj (of_decide_eq_true h)
  rw [hB_either E.rl F.rl i j hi hj, Bool.or_eq_true] at h
  rcases h with h | h
  · exact h1 i j hi hj h
  · exact h2 i j hi hj h
theorem Eqv.both {n : Nat} {xs ys : List Int} (E : Eqv n xs) (F : Eqv n ys) : Eqv n (bothL xs ys) := by
  refine ⟨E.rl.both F.rl, ?_, ?_, ?_⟩
  · intro i hi
    rw [hB_both E.rl F.rl i i hi hi, E.refl i hi, F.refl i hi]
    rfl
  · intro i j hi hj h
    rw [hB_both E.rl F.rl i j hi hj, Bool.and_eq_true] at h
    rw [hB_both E.rl F.rl j i hj hi, E.symm i j hi hj h.1, F.symm i j hi hj h.2]
    rfl
  · intro i j k hi hj hk h h2
    rw [hB_both E.rl F.rl i j hi hj, Bool.and_eq_true] at h
    rw [hB_both E.rl F.rl j k hj hk, Bool.and_eq_true] at h2
    rw [hB_both E.rl F.rl i k hi hk, E.trans i j k hi hj hk h.1 h2.1, F.trans i j k hi hj hk h.2 h2.2]
    rfl
theorem meet_sub1 {n : Nat} {xs ys : List Int} (E : Eqv n xs) (F : Eqv n ys) : sub n (bothL xs ys) xs := by
  intro i j hi hj h
  rw [hB_both E.rl F.rl i j hi hj, Bool.and_eq_true] at h
  exact h.1
theorem meet_sub2 {n : Nat} {xs ys : List Int} (E : Eqv n xs) (F : Eqv n ys) : sub n (bothL xs ys) ys := by
  intro i j hi hj h
  rw [hB_both E.rl F.rl i j hi hj, Bool.and_eq_true] at h
  exact h.2
/-- a meet joined with one of both is this one -/
theorem meet_join {n : Nat} {xs ys : List Int} (E : Eqv n xs) (F : Eqv n ys) : joinR (bothL xs ys) xs = xs :=
  sub.anti ((E.both F).join E).rl E.rl (join_sub (E.both F) E E (meet_sub1 E F) (sub.refl _)) (join_has2 (E.both F) E)
/-- a join met with one of both is this one -/
theorem join_meet {n : Nat} {xs ys : List Int} (E : Eqv n xs) (F : Eqv n ys) : bothL (joinR xs ys) xs = xs := by
  have J := E.join F
  refine sub.anti (J.both E).rl E.rl (meet_sub2 J E) ?_
  intro i j hi hj h
  rw [hB_both J.rl E.rl i j hi hj, h, join_has1 E F i j hi hj h]
  rfl
theorem rst_textL : textTo rstT rst rstT.size = true := by decide +kernel
theorem rst_letters (c : Nat) (h : hasTo rstT c rstT.size = true) : c = 114 ∨ c = 115 ∨ c = 116 := by
  obtain ⟨k, hk, rfl⟩ := (hasTo_iff _ _ _).1 h
  exact rstIn rst_textL k hk
theorem Eqv.of {n : Nat} {xs : List Int} (E : Eqv n xs) (c : Nat) : ofC n c xs :=
  ⟨fun _ => E.refl, fun _ => E.symm, fun _ => (below_iff (E.rl.comp E.rl) E.rl).2 fun i j hi hj h => by
    obtain ⟨k, hk, a, b⟩ := (hB_comp E.rl E.rl i j hi hj).1 h
    exact E.trans i k j hi hk hj a b⟩
/-- the least equivalence that has all pairs of both is the join -/
theorem least_join {n : Nat} {xs ys : List Int} (E : Eqv n xs) (F : Eqv n ys) : leastL (eitherL xs ys) rstT = joinR xs ys := by
  have J := E.join F
  have Y := E.rl.either F.rl
  have L : Eqv n (leastL (eitherL xs ys) rstT) := by
    refine ⟨least_rl Y _, (least_of Y rstT 114 (by decide +kernel)).1 rfl, (least_of Y rstT 115 (by decide +kernel)).2.1 rfl, ?_⟩
    have h := (least_of Y rstT 116 (by decide +kernel)).2.2 rfl
    rw [below_iff ((least_rl Y rstT).comp (least_rl Y rstT)) (least_rl Y rstT)] at h
    intro i j k hi hj hk a b
    exact h i k hi hk ((hB_comp (least_rl Y rstT) (least_rl Y rstT) i k hi hk).2 ⟨j, hj, a, b⟩)
  have hs := least_sub Y rstT
  refine sub.anti L.rl J.rl (least_least Y J.rl rstT ?_ fun c _ => J.of c) (join_sub E F L ?_ ?_)
  · intro i j hi hj h
    rw [hB_either E.rl F.rl i j hi hj, Bool.or_eq_true] at h
    rcases h with h | h
    · exact join_has1 E F i j hi hj h
    · exact join_has2 E F i j hi hj h
  · intro i j hi hj h
    exact hs i j hi hj (by rw [hB_either E.rl F.rl i j hi hj, h]; rfl)
  · intro i j hi hj h
    exact hs i j hi hj (by rw [hB_either E.rl F.rl i j hi hj, h, Bool.or_true])
theorem least_eok {n : Nat} {xs ys : List Int} (E : Eqv n xs) (F : Eqv n ys) : leastB (eitherL xs ys) rstT = true := by
  unfold leastB
  rw [(E.rl.either F.rl).ok, rst_textL]
  rfl

/-! kernels -/
theorem ker_rl {n : Nat} {a : List Int} (R : Rl n a) : Rl n (kerL a) := by
  unfold kerL
  rw [R.len]
  exact Rl.test R.one R.four _
theorem hB_ker {n : Nat} {a : List Int} (R : Rl n a) (i j : Nat) (hi : i < n) (hj : j < n) : hB (kerL a) i j = decide (rowAt a i = rowAt a j) := by
  unfold kerL
  rw [R.len]
  exact hB_test R.one R.four _ i j hi hj
theorem Eqv.ker {n : Nat} {a : List Int} (R : Rl n a) : Eqv n (kerL a) := by
  refine ⟨ker_rl R, ?_, ?_, ?_⟩
  · intro i hi
    rw [hB_ker R i i hi hi]
    exact decide_eq_true rfl
  · intro i j hi hj h
    rw [hB_ker R i j hi hj] at h
    rw [hB_ker R j i hj hi]
    exact decide_eq_true (of_decide_eq_true h).symm
  · intro i j k hi hj hk h h2
    rw [hB_ker R i j hi hj] at h
    rw [hB_ker R j k hj hk] at h2
    rw [hB_ker R i k hi hk]
    exact decide_eq_true ((of_decide_eq_true h).trans (of_decide_eq_true h2))
theorem ker_comp {n : Nat} {a : List Int} (R : Rl n a) : compL (kerL a) a = a := by
  have K := Eqv.ker R
  refine (K.rl.comp R).ext R fun i j hi hj => bool_iff ⟨fun h => ?_, fun h => (hB_comp K.rl R i j hi hj).2 ⟨i, hi, K.refl i hi, h⟩⟩
  obtain ⟨k, hk, e, h2⟩ := (hB_comp K.rl R i j hi hj).1 h
  rw [hB_ker R i k hi hk] at e
  unfold hB at h2 ⊢
  rw [of_decide_eq_true e]
  exact h2

/-! kept ones -/
theorem kept_rl {xs ys : List Int} (h : keptAll xs ys = true) : Eqv xs.length xs ∧ Rl xs.length ys ∧ keptB xs ys = true := by
  unfold keptAll at h
  rw [Bool.and_eq_true, Bool.and_eq_true] at h
  exact ⟨(equ_iff xs).1 h.2.1, (two_rl h.1).2, h.2.2⟩
theorem kept_all {n : Nat} {xs ys : List Int} (E : Eqv n xs) (S : Rl n ys) (h : keptB xs ys = true) : keptAll xs ys = true := by
  unfold keptAll
  rw [two_ok E.rl S, eqv_ok E, h]
  rfl
theorem kept_twice {n : Nat} {xs ys : List Int} (E : Eqv n xs) (S : Rl n ys) (h : keptB xs ys = true) : keptB xs (compL ys ys) = true := by
  have C := S.comp S
  unfold keptB at h ⊢
  rw [below_iff (E.rl.comp S) (S.comp E.rl)] at h
  rw [below_iff (E.rl.comp C) (C.comp E.rl)]
  intro i j hi hj e
  obtain ⟨k, hk, e1, e2⟩ := (hB_comp E.rl C i j hi hj).1 e
  obtain ⟨l, hl, e3, e4⟩ := (hB_comp S S k j hk hj).1 e2
  obtain ⟨m, hm, f1, f2⟩ := (hB_comp S E.rl i l hi hl).1 (h i l hi hl ((hB_comp E.rl S i l hi hl).2 ⟨k, hk, e1, e3⟩))
  obtain ⟨p, hp, g1, g2⟩ := (hB_comp S E.rl m j hm hj).1 (h m j hm hj ((hB_comp E.rl S m j hm hj).2 ⟨l, hl, f2, e4⟩))
  exact (hB_comp C E.rl i j hi hj).2 ⟨p, hp, (hB_comp S S i p hi hp).2 ⟨m, hm, f1, g1⟩, g2⟩
theorem kept_same {n : Nat} {xs : List Int} (E : Eqv n xs) : keptB xs (sameL n) = true := by
  have S := Rl.same E.rl.one E.rl.four
  unfold keptB
  rw [below_iff (E.rl.comp S) (S.comp E.rl)]
  intro i j hi hj e
  obtain ⟨k, hk, e1, e2⟩ := (hB_comp E.rl S i j hi hj).1 e
  rw [hB_same E.rl.four k j hk hj] at e2
  obtain rfl := of_decide_eq_true e2
  exact (hB_comp S E.rl i j hi hj).2 ⟨i, hi, by rw [hB_same E.rl.four i i hi hi]; exact decide_eq_true rfl, e1⟩

/-! quotients -/
theorem Eqv.same {n : Nat} (h1 : 1 ≤ n) (h4 : n ≤ 4) : Eqv n (sameL n) := by
  refine ⟨Rl.same h1 h4, ?_, ?_, ?_⟩
  · intro i hi
    rw [hB_same h4 i i hi hi]
    exact decide_eq_true rfl
  · intro i j hi hj h
    rw [hB_same h4 i j hi hj] at h
    rw [hB_same h4 j i hj hi]
    exact decide_eq_true (of_decide_eq_true h).symm
  · intro i j k hi hj hk h h2
    rw [hB_same h4 i j hi hj] at h
    rw [hB_same h4 j k hj hk] at h2
    rw [hB_same h4 i k hi hk]
    exact decide_eq_true ((of_decide_eq_true h2).trans (of_decide_eq_true h))
theorem link_same : linkS (sameL 1) = fo0 ∧ linkS (sameL 2) = fo0 ∧ linkS (sameL 3) = fo0 ∧ linkS (sameL 4) = fo0 := by decide +kernel
theorem link_same' {n : Nat} (h1 : 1 ≤ n) (h4 : n ≤ 4) : linkS (sameL n) = fo0 := by
  rcases (by omega : n = 1 ∨ n = 2 ∨ n = 3 ∨ n = 4) with rfl | rfl | rfl | rfl
  · exact link_same.1
  · exact link_same.2.1
  · exact link_same.2.2.1
  · exact link_same.2.2.2
theorem cm_fo0 : ∀ k : Fin 5, cm fo0 k.val = k.val := by decide +kernel
theorem cm_rt0 : ∀ i : Fin 4, cm fo0 (rt fo0 i.val) = i.val := by decide +kernel
theorem quo_put (n : Nat) (h4 : n ≤ 4) (pre : List (Fin n × Fin n)) : quoAcc n fo0 pre = putAcc n pre := by
  refine rev_ind (P := fun pre => quoAcc n fo0 pre = putAcc n pre) (by unfold quoAcc putAcc; rw [List.foldl_nil, List.foldl_nil]) (fun l p ih => ?_) pre
  have key : ∀ i : Nat, i < 4 → cm fo0 (rt fo0 i) = i := fun i hi => cm_rt0 ⟨i, hi⟩
  rw [quoAcc_snoc, putAcc_snoc, ih, key p.1.val (by have := p.1.isLt; omega), key p.2.val (by have := p.2.isLt; omega)]
/-- by the equivalence of each point alone a quotient is the relation -/
theorem quo_same {a : List Int} (R : Rl a.length a) : quoL a (sameL a.length) = a := by
  have h1 := R.one
  have h4 := R.four
  have h := (quo_eq R (Eqv.same h1 h4)).1
  rw [link_same' h1 h4, show cm fo0 a.length = a.length from cm_fo0 ⟨a.length, by omega⟩, quo_put _ h4] at h
  rw [← h]
  obtain ⟨P, hP⟩ := testR_fold h1 h4 (pairsOf a)
  refine P.ext R fun i j hi hj => bool_iff ?_
  rw [hP i j hi hj]
  constructor
  · rintro ⟨p, hp, rfl, rfl⟩
    exact (mem_pairs h4 p).1 hp
  · intro e
    exact ⟨(⟨i, hi⟩, ⟨j, hj⟩), (mem_pairs h4 _).2 e, rfl, rfl⟩
theorem quo_rl {a e : List Int} (R : Rl a.length a) (E : Eqv a.length e) : Rl (clsL e).length (quoL a e) := by
  obtain ⟨-, h2, h3⟩ := quo_eq R E
  have hle := clsTo_le e e.length
  have h4 := R.four
  have hl := E.rl.len
  unfold quoL
  refine Rl.test (by rw [← h2]; exact h3) ?_ _
  have hle : (clsL e).length ≤ e.length := hle
  omega
theorem quo_ok {a e : List Int} (h : quoOK a e = true) : Rl a.length a ∧ Eqv a.length e := by
  unfold quoOK at h
  rw [Bool.and_eq_true] at h
  obtain ⟨h1, h2⟩ := two_rl h.1
  have := (equ_iff e).1 h.2
  rw [h2.len] at this
  exact ⟨h1, this⟩
theorem ok_quo {n : Nat} {a e : List Int} (R : Rl n a) (E : Eqv n e) : quoOK a e = true := by
  unfold quoOK
  rw [two_ok R E.rl, eqv_ok E]
  rfl

/-! contracts -/
theorem kEquIn {n : Nat} {xs : List Int} (E : Eqv n xs) (ao : Option Addr) (ca : Nat) (w : World) (hx : Rd w ao xs) : Calls Try.prog 13 #[.slice ao xs.length ca] w fun e w' => e = .returned (.bool true) ∧ Below w.heap.size w w' := by
  have := implEquIn_any ao ca xs w (rl_short E.rl) hx
  rw [eqv_ok E] at this
  exact this
theorem kRelIn {n : Nat} {xs : List Int} (R : Rl n xs) (ao : Option Addr) (ca : Nat) (w : World) (hx : Rd w ao xs) : Calls Try.prog 28 #[.slice ao xs.length ca] w fun e w' => e = .returned (.bool true) ∧ Below w.heap.size w w' := by
  have := implRelIn_any ao ca xs w (rl_short R) hx
  rw [R.ok] at this
  exact this
theorem kMeet {n : Nat} {xs ys : List Int} (E : Eqv n xs) (F : Eqv n ys) (ao bo : Option Addr) (ca cb : Nat) (w : World) (hx : Rd w ao xs) (hy : Rd w bo ys) : Calls Try.prog 15 #[.slice ao xs.length ca, .slice bo ys.length cb] w (Gave w (bothL xs ys) true) := by
  have := implEquMeet_any ao bo ca cb xs ys w (rl_short E.rl) (rl_short F.rl) hx hy
  rw [eqv_two E F] at this
  exact this
theorem kJoin {n : Nat} {xs ys : List Int} (E : Eqv n xs) (F : Eqv n ys) (ao bo : Option Addr) (ca cb : Nat) (w : World) (hx : Rd w ao xs) (hy : Rd w bo ys) : Calls Try.prog 17 #[.slice ao xs.length ca, .slice bo ys.length cb] w (Gave w (joinR xs ys) true) := by
  have := implEquJoin_any ao bo ca cb xs ys w (rl_short E.rl) (rl_short F.rl) hx hy
  rw [eqv_two E F] at this
  exact this
theorem kEither {n : Nat} {xs ys : List Int} (h : Rl n xs) (k : Rl n ys) (ao bo : Option Addr) (ca cb : Nat) (w : World) (hx : Rd w ao xs) (hy : Rd w bo ys) : Calls Try.prog 21 #[.slice ao xs.length ca, .slice bo ys.length cb] w (Gave w (eitherL xs ys) true) := by
  have := implRelEither_any ao bo ca cb xs ys w (rl_short h) (rl_short k) hx hy
  rw [two_ok h k] at this
  exact this
theorem kLeastJ {n : Nat} {xs ys : List Int} (E : Eqv n xs) (F : Eqv n ys) (ao : Option Addr) (ca : Nat) (w : World) (hx : Rd w ao (eitherL xs ys)) : Calls Try.prog 22 #[.slice ao (eitherL xs ys).length ca, .string ⟨#[114, 115, 116]⟩] w (Gave w (joinR xs ys) true) := by
  have := implKindLeast_any ao ca (eitherL xs ys) rstT w (rl_short (E.rl.either F.rl)) (by decide) hx
  rw [least_eok E F, least_join E F] at this
  exact this
theorem kClasses {n : Nat} {xs : List Int} (E : Eqv n xs) (ao : Option Addr) (ca : Nat) (w : World) (hx : Rd w ao xs) : Calls Try.prog 26 #[.slice ao xs.length ca] w (Gave w (clsL xs) true) := by
  have := implEquClasses_any ao ca xs w (rl_short E.rl) hx
  rw [eqv_ok E] at this
  exact this
theorem kSame {n : Nat} (h1 : 1 ≤ n) (h4 : n ≤ 4) (w : World) : Calls Try.prog 27 #[.int .i64 n] w (Gave w (sameL n) true) := by
  have := implRelSame_any (n : Int) w
  rw [show inB (n : Int) 1 4 = true from decide_eq_true ⟨by omega, by omega⟩] at this
  exact this
theorem kQuo {n : Nat} {a e : List Int} (R : Rl n a) (E : Eqv n e) (ao bo : Option Addr) (ca cb : Nat) (w : World) (hx : Rd w ao a) (hy : Rd w bo e) : Calls Try.prog 24 #[.slice ao a.length ca, .slice bo e.length cb] w (Gave w (quoL a e) true) := by
  have := implEquQuotient_any ao bo ca cb a e w (rl_short R) (rl_short E.rl) hx hy
  rw [ok_quo R E] at this
  exact this
theorem kKept {n : Nat} {xs ys : List Int} (E : Eqv n xs) (S : Rl n ys) (h : keptB xs ys = true) (ao bo : Option Addr) (ca cb : Nat) (w : World) (hx : Rd w ao xs) (hy : Rd w bo ys) : Calls Try.prog 30 #[.slice ao xs.length ca, .slice bo ys.length cb] w fun e w' => e = .returned (.bool true) ∧ Below w.heap.size w w' := by
  have := implEquKept_any ao bo ca cb xs ys w (rl_short E.rl) (rl_short S) hx hy
  rw [kept_all E S h] at this
  exact this
end Go.Proofs.Ytghkeaepjckcdaa
