/-
  Draws of two equivalences, of a relation and an equivalence, and what the laws draw by them.
-/
import Derived.Test.YtghkeaepjckcdaaJQ
import Derived.Test.YtghkeaepjckcdaaDI
import Derived.Test.YtghkeaepjckcdaaEE
namespace Go.Proofs.Ytghkeaepjckcdaa
open Go.RowKit

/-- what a draw of two lists gives -/
def DrewT (w : World) (e : Ending) (w' : World) : Prop :=
  ∃ (v u : Value) (rs ss : List Int), e = .returned (.tuple #[v, u]) ∧ rs.length ≤ 4 ∧ ss.length ≤ 4 ∧
    w'.ownsRow w.heap.size 3 1 v rs.length (rs.map (Value.int .i64)) ∧ w'.ownsRow w.heap.size 3 1 u ss.length (ss.map (Value.int .i64)) ∧ Below w.heap.size w w'

set_option maxHeartbeats 4000000 in
theorem l92Both_any (ao : Option Addr) (c : Nat) (bs : List Nat) (w : World) (hb : RdB w ao bs) (hc : bs.length ≤ c) (hbA : bs ≠ [] → ∀ a, ao = some a → a.block < w.heap.size) :
    Calls Try.prog 40 #[.slice ao bs.length c] w (DrewT w) := by
  have HB := Lib.hid (And.intro hb hbA)
  clear hb hbA
  go_enter Try.func40, Try.ntmps40
  go_wp2_with fail
  refine (open_any ao c bs w hc).mono ?_
  rintro e w1 ⟨bs', hbs, rfl, hr, hB⟩
  have hl : bs'.length ≤ 2000 := by rw [hbs, List.length_take]; omega
  have hA : bs' ≠ [] → ∀ a, ao = some a → a.block < w.heap.size := fun h => HB.out.2 (fun e => h (by rw [hbs, e]; rfl))
  have HA := Lib.hid hA
  clear hA
  have hb1 : RdB w1 ao bs' := by rw [hbs]; exact (HB.out.1.take 2000).below hB
  have S : DrS w1 w1 w.heap.size ao bs' c 0 := ⟨hr, Below.refl _ _, Nat.le_refl _, fun _ _ _ => rfl⟩
  have HC := Lib.hid (pick_step S hb1 HA.out hl (by omega) 4 4 rfl (by omega) (by omega))
  clear hr hbs
  go_wp2_with fail
  refine HC.out.mono ?_
  rintro e w2 ⟨k, hk, rfl, S2, hss, _, _⟩
  have hb2 := hb1.keep HA.out S2.bl S2.sz
  have HD := Lib.hid (l92Equ_any S2.here hb2 HA.out hl (by omega) (1 + k) (1 + (k : Int)) (by omega) (by omega) (by omega))
  have hB2 : Below w.heap.size w w2 := hB.trans S2.bl
  have hsz2 := hB2.size
  have hRlt : w.heap.size < w2.heap.size := (Array.getElem?_eq_some_iff.1 S2.rd).1
  have HS := Lib.hid (And.intro hB2 hb2)
  clear HC S S2 hb1 hb2 hB hB2 hss
  go_wp2_with fail
  refine HD.out.mono ?_
  rintro e w3 ⟨v, rs, q, rfl, hrl, ho, hq, S4⟩
  have hb3 := HS.out.2.keep HA.out S4.bl S4.sz
  have HF := Lib.hid (l92Equ_any S4.here hb3 HA.out hl (by omega) (1 + k) (1 + (k : Int)) (by omega) (by omega) (by omega))
  have B3 := HS.out.1.trans S4.bl
  have HR := Lib.hid (And.intro hrl (And.intro ho B3))
  have hs3 := S4.sz
  clear hrl ho S4 HD B3 hb3
  go_wp2_with fail
  refine HF.out.mono ?_
  rintro e w4 ⟨u, ss, q2, rfl, hsl, ho4, _, S5⟩
  have HU := Lib.hid (And.intro hsl (And.intro ho4 S5))
  clear hsl ho4 S5 HF
  go_wp2
  go_ret2
  refine ⟨v, u, rs, ss, rfl, by have := HR.out.1; omega, by have := HU.out.1; omega, ?_, ?_, HR.out.2.2.trans HU.out.2.2.bl⟩
  · rw [HR.out.1]
    exact own_mono (own_oth HR.out.2.1 hRlt HU.out.2.2.oth) hsz2
  · rw [HU.out.1]
    exact own_mono HU.out.2.1 (Nat.le_trans hsz2 hs3)

set_option maxHeartbeats 4000000 in
theorem l92Quotient_any (ao : Option Addr) (c : Nat) (bs : List Nat) (w : World) (hb : RdB w ao bs) (hc : bs.length ≤ c) (hbA : bs ≠ [] → ∀ a, ao = some a → a.block < w.heap.size) :
    Calls Try.prog 55 #[.slice ao bs.length c] w (DrewT w) := by
  have HB := Lib.hid (And.intro hb hbA)
  clear hb hbA
  go_enter Try.func55, Try.ntmps55
  go_wp2_with fail
  refine (open_any ao c bs w hc).mono ?_
  rintro e w1 ⟨bs', hbs, rfl, hr, hB⟩
  have hl : bs'.length ≤ 2000 := by rw [hbs, List.length_take]; omega
  have hA : bs' ≠ [] → ∀ a, ao = some a → a.block < w.heap.size := fun h => HB.out.2 (fun e => h (by rw [hbs, e]; rfl))
  have HA := Lib.hid hA
  clear hA
  have hb1 : RdB w1 ao bs' := by rw [hbs]; exact (HB.out.1.take 2000).below hB
  have S : DrS w1 w1 w.heap.size ao bs' c 0 := ⟨hr, Below.refl _ _, Nat.le_refl _, fun _ _ _ => rfl⟩
  have HC := Lib.hid (pick_step S hb1 HA.out hl (by omega) 4 4 rfl (by omega) (by omega))
  clear hr hbs
  go_wp2_with fail
  refine HC.out.mono ?_
  rintro e w2 ⟨k, hk, rfl, S2, hss, _, _⟩
  have hb2 := hb1.keep HA.out S2.bl S2.sz
  have HD := Lib.hid (l91Rel_any S2.here hb2 HA.out hl (by omega) (1 + k) (1 + (k : Int)) (by omega) (by omega) (by omega))
  have hB2 : Below w.heap.size w w2 := hB.trans S2.bl
  have hsz2 := hB2.size
  have hRlt : w.heap.size < w2.heap.size := (Array.getElem?_eq_some_iff.1 S2.rd).1
  have HS := Lib.hid (And.intro hB2 hb2)
  clear HC S S2 hb1 hb2 hB hB2 hss
  go_wp2_with fail
  refine HD.out.mono ?_
  rintro e w3 ⟨v, rs, q, rfl, hrl, ho, hq, S4⟩
  have hb3 := HS.out.2.keep HA.out S4.bl S4.sz
  have HF := Lib.hid (l92Equ_any S4.here hb3 HA.out hl (by omega) (1 + k) (1 + (k : Int)) (by omega) (by omega) (by omega))
  have B3 := HS.out.1.trans S4.bl
  have HR := Lib.hid (And.intro hrl (And.intro ho B3))
  have hs3 := S4.sz
  clear hrl ho S4 HD B3 hb3
  go_wp2_with fail
  refine HF.out.mono ?_
  rintro e w4 ⟨u, ss, q2, rfl, hsl, ho4, _, S5⟩
  have HU := Lib.hid (And.intro hsl (And.intro ho4 S5))
  clear hsl ho4 S5 HF
  go_wp2
  go_ret2
  refine ⟨v, u, rs, ss, rfl, by have := HR.out.1; omega, by have := HU.out.1; omega, ?_, ?_, HR.out.2.2.trans HU.out.2.2.bl⟩
  · rw [HR.out.1]
    exact own_mono (own_oth HR.out.2.1 hRlt HU.out.2.2.oth) hsz2
  · rw [HU.out.1]
    exact own_mono HU.out.2.1 (Nat.le_trans hsz2 hs3)

theorem drawEquMeet_any (ao : Option Addr) (c : Nat) (bs : List Nat) (w : World) (hb : RdB w ao bs) (hc : bs.length ≤ c) (hbA : bs ≠ [] → ∀ a, ao = some a → a.block < w.heap.size) :
    Calls Try.prog 14 #[.slice ao bs.length c] w (DrewT w) := by
  have HD := Lib.hid (l92Both_any ao c bs w hb hc hbA)
  clear hb hbA
  go_enter Try.func14, Try.ntmps14
  go_wp2_with fail
  refine HD.out.mono ?_
  rintro e w3 ⟨v, u, rs, ss, rfl, hrest⟩
  have HR := Lib.hid hrest
  clear hrest HD
  go_wp2
  go_ret2
  exact ⟨v, u, rs, ss, rfl, HR.out⟩
theorem drawEquJoin_any (ao : Option Addr) (c : Nat) (bs : List Nat) (w : World) (hb : RdB w ao bs) (hc : bs.length ≤ c) (hbA : bs ≠ [] → ∀ a, ao = some a → a.block < w.heap.size) :
    Calls Try.prog 19 #[.slice ao bs.length c] w (DrewT w) := by
  have HD := Lib.hid (l92Both_any ao c bs w hb hc hbA)
  clear hb hbA
  go_enter Try.func19, Try.ntmps19
  go_wp2_with fail
  refine HD.out.mono ?_
  rintro e w3 ⟨v, u, rs, ss, rfl, hrest⟩
  have HR := Lib.hid hrest
  clear hrest HD
  go_wp2
  go_ret2
  exact ⟨v, u, rs, ss, rfl, HR.out⟩
theorem drawEquQuotient_any (ao : Option Addr) (c : Nat) (bs : List Nat) (w : World) (hb : RdB w ao bs) (hc : bs.length ≤ c) (hbA : bs ≠ [] → ∀ a, ao = some a → a.block < w.heap.size) :
    Calls Try.prog 23 #[.slice ao bs.length c] w (DrewT w) := by
  have HD := Lib.hid (l92Quotient_any ao c bs w hb hc hbA)
  clear hb hbA
  go_enter Try.func23, Try.ntmps23
  go_wp2_with fail
  refine HD.out.mono ?_
  rintro e w3 ⟨v, u, rs, ss, rfl, hrest⟩
  have HR := Lib.hid hrest
  clear hrest HD
  go_wp2
  go_ret2
  exact ⟨v, u, rs, ss, rfl, HR.out⟩
theorem drawEquKernel_any (ao : Option Addr) (c : Nat) (bs : List Nat) (w : World) (hb : RdB w ao bs) (hc : bs.length ≤ c) (hbA : bs ≠ [] → ∀ a, ao = some a → a.block < w.heap.size) :
    Calls Try.prog 8 #[.slice ao bs.length c] w (Drew w) := by
  have HD := Lib.hid (l91Some_any ao c bs w hb hc hbA)
  clear hb hbA
  go_enter Try.func8, Try.ntmps8
  go_wp2_with fail
  refine HD.out.mono ?_
  rintro e w3 ⟨v, rs, rfl, hrl, ho, hB⟩
  have HR := Lib.hid (And.intro hrl (And.intro ho hB))
  clear hrl ho hB HD
  go_wp2
  go_ret
  exact ⟨v, rs, rfl, HR.out⟩

set_option maxHeartbeats 4000000 in
theorem drawEquKept_any (ao : Option Addr) (c : Nat) (bs : List Nat) (w : World) (hbl : bs.length ≤ 1048576) (hb : RdB w ao bs) (hc : bs.length ≤ c) (hbA : bs ≠ [] → ∀ a, ao = some a → a.block < w.heap.size) :
    Calls Try.prog 29 #[.slice ao bs.length c] w (DrewT w) := by
  have HD := Lib.hid (l92Quotient_any ao c bs w hb hc hbA)
  clear hb hbA
  go_enter Try.func29, Try.ntmps29
  go_wp2_with fail
  refine HD.out.mono ?_
  rintro e w1 ⟨v, u, a, b, rfl, hal, hbl4, ho1, ho2, B1⟩
  obtain ⟨aa, ac, rfl, ra⟩ := row_rd ho1
  obtain ⟨ba, bc, rfl, rb⟩ := row_rd ho2
  have HO := Lib.hid (And.intro ho1 (And.intro ho2 B1))
  clear ho1 ho2 B1 HD
  by_cases hpar : bs.length % 2 = 0
  · have hp0 : (((bs.length : Int).tmod 2) == 0) = true := by
      rw [Int.tmod_eq_emod_of_nonneg (by omega)]
      simp
      omega
    have H2 := l1Two_any aa ba ac bc a b w1 (by omega) (by omega) ra rb
    cases hp : twoIn a b with
    | false =>
      rw [hp] at H2
      have H2 := Lib.hid H2
      have HAL := Lib.hid (And.intro hal hbl4)
      clear hp ra rb hal hbl4
      go_wp2_with fail
      refine H2.out.mono ?_
      rintro e w2 ⟨rfl, d2⟩
      have HD2 := Lib.hid d2
      clear d2
      go_wp2
      go_ret2
      exact ⟨_, _, b, a, rfl, HAL.out.2, HAL.out.1, HD2.out.row HO.out.2.1, HD2.out.row HO.out.1, HO.out.2.2.trans (HD2.out.below _)⟩
    | true =>
      rw [hp] at H2
      obtain ⟨R1, R2⟩ := two_rl hp
      have H2 := Lib.hid H2
      have HC := Lib.hid (fun wr h h2 => sComp R2 R1 ba aa bc ac wr h h2)
      have HAL := Lib.hid (And.intro hal (And.intro hbl4 (show (compL b a).length ≤ 4 by rw [(R2.comp R1).len]; exact hal)))
      obtain ⟨cl, hcl⟩ : ∃ l, compL b a = l := ⟨_, rfl⟩
      rw [hcl] at HC HAL
      have HRD := Lib.hid (And.intro ra rb)
      clear hp ra rb hal hbl4 R1 R2 hcl
      go_wp2_with fail
      refine H2.out.mono ?_
      rintro e w2 ⟨rfl, d2⟩
      have HD2 := Lib.hid d2
      clear d2
      go_wp2_with fail
      refine (HC.out _ (HD2.out.rd HRD.out.2) (HD2.out.rd HRD.out.1)).mono ?_
      rintro e w3 ⟨x, rfl, ho3, b3⟩
      have HO3 := Lib.hid (And.intro ho3 b3)
      clear ho3 b3
      go_wp2
      go_ret2
      have B2 := HO.out.2.2.trans (HD2.out.below w.heap.size)
      have hs := B2.size
      refine ⟨_, x, b, cl, rfl, HAL.out.2.1, HAL.out.2.2, ?_, own_mono HO3.out.1 hs, B2.trans (HO3.out.2.mono hs)⟩
      have h := ((OwnR.made (xs := b) (HD2.out.row HO.out.2.1)).below HO3.out.2 (Nat.le_refl _)).row
      exact h
  · have hp0 : (((bs.length : Int).tmod 2) == 0) = false := by
      rw [Int.tmod_eq_emod_of_nonneg (by omega)]
      simp
      omega
    have HAL := Lib.hid (And.intro hal hbl4)
    clear ra rb hal hbl4
    go_wp2
    go_ret2
    exact ⟨_, _, b, a, rfl, HAL.out.2, HAL.out.1, HO.out.2.1, HO.out.1, HO.out.2.2⟩
end Go.Proofs.Ytghkeaepjckcdaa
