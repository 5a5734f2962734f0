/-
  The draw of an order: l92Order, l92One and the draws made of it; for whatever bytes.
-/
import Derived.Test.YtchbbflpckaddaaOC
import Derived.Test.YtchbbflpckaddaaEN
import Derived.Test.YtchbbflpckaddaaDE
import Derived.Deep.RegionHeldLaw
namespace Go.Proofs.Ytchbbflpckaddaa
open Go.RowKit

def ofB (xs : List Int) : Bool := relIn xs && ordB (starL xs)
set_option maxRecDepth 100000 in
set_option maxHeartbeats 4000000 in
theorem implOrderOf_any (ao : Option Addr) (ca : Nat) (xs : List Int) (w : World) (hl : xs.length ≤ 1048576) (hx : Rd w ao xs) :
    Calls Try.prog 23 #[.slice ao xs.length ca] w (Gave w (ifR (ofB xs) (starL xs)) (ofB xs)) := by
  unfold ofB
  cases hp : relIn xs with
  | false =>
    rw [Bool.false_and]
    have HC := Lib.hid (relationFrom_no ao ca xs w hl hp hx)
    clear hp hx
    go_enter Try.func23, Try.ntmps23
    go_wp2_with fail
    refine HC.out.mono ?_
    rintro e w1 ⟨rfl, hb⟩
    go_wp2
    go_ret2
    exact ⟨.slice none 0 0, rfl, World.ownsRow_nil _ _ _ _, hb.alloc hb.size _⟩
  | true =>
    rw [Bool.true_and]
    have R := Rl.of hp
    have S := R.star
    rw [← S.len] at S
    have hy := fun (h : ordB (starL xs) = true) wr => asOrder_yes S h wr
    have hn := fun (h : ordB (starL xs) = false) wr => asOrder_no S h wr
    have HY := Lib.hid (And.intro hy hn)
    have h4 := S.four
    have HC := Lib.hid (relationFrom_yes ao ca xs w hp hx)
    have H := Lib.hid R
    have HL := Lib.hid (fun wr => list_any (starL xs) wr h4)
    have HE := Lib.hid (show ∀ m a, Rep xs m a → fromL xs 0 (m - 0) = starL xs from fun m a hr => from_star R hr)
    clear hp hx R S hy hn h4
    obtain ⟨r, hr⟩ : ∃ r, starL xs = r := ⟨_, rfl⟩
    rw [hr] at HY HL HE ⊢
    clear hr
    go_enter Try.func23, Try.ntmps23
    go_wp2_with fail
    refine HC.out.mono ?_
    rintro e w1 ⟨rfl, hb⟩
    have x1 := RelAt.new w1 xs
    have B1 := hb.alloc hb.size (.cells #[.int .i64 xs.length, .int .i64 (rowAt xs 0), .int .i64 (rowAt xs 1), .int .i64 (rowAt xs 2), .int .i64 (rowAt xs 3)] 43)
    have p0 := x1.cell0
    have p1 := x1.cell1
    have p2 := x1.cell2
    have p3 := x1.cell3
    have p4 := x1.cell4
    clear x1 hb
    go_wp2_with fail
    refine (powersOf_any H.out _).mono ?_
    rintro e w2 ⟨v, m, a, hr, rfl, ho, hb2⟩
    obtain ⟨g, cap, rfl, _, _⟩ := pow_form ho (by omega)
    have hm := new_le H.out m hr.new
    have hlt := hr.lt
    have hE := HE.out m a hr
    have B2 := B1.trans (hb2.mono B1.size)
    have HE2 := Lib.hid hE
    clear p0 p1 p2 p3 p4 hb2 B1 hE hr
    go_wp2_with fail
    refine (from_any H.out hm g cap 0 (by omega) (by omega) _ (own_mono ho (Nat.zero_le _))).mono ?_
    rw [HE2.out]
    rintro e w3 ⟨rfl, hb3⟩
    have B3 := B2.trans (hb3.mono B2.size)
    clear hb3 B2 ho
    cases hq : ordB r with
    | false =>
      have HN := Lib.hid (HY.out.2 hq)
      have HB := Lib.hid hq
      clear hq
      go_wp2_with fail
      refine (HN.out _).mono ?_
      rintro e w4 ⟨rfl, hb4⟩
      have B4 := B3.trans (hb4.mono B3.size)
      clear hb4
      go_wp2
      go_ret2
      exact ⟨.slice none 0 0, by rw [HB.out]; rfl, by rw [HB.out]; exact World.ownsRow_nil _ _ _ _, B4.alloc B4.size _⟩
    | true =>
      have HN := Lib.hid (HY.out.1 hq)
      have HB := Lib.hid hq
      clear hq
      go_wp2_with fail
      refine (HN.out _).mono ?_
      rintro e w4 ⟨rfl, hb4⟩
      have B4 := (B3.trans (hb4.mono B3.size)).alloc (Nat.le_trans B3.size hb4.size) (.cells #[.int .i64 r.length, .int .i64 (rowAt r 0), .int .i64 (rowAt r 1), .int .i64 (rowAt r 2), .int .i64 (rowAt r 3)] 45)
      have y4 := OrdAt.new w4 r
      have q0 := y4.cell0
      have q1 := y4.cell1
      have q2 := y4.cell2
      have q3 := y4.cell3
      have q4 := y4.cell4
      clear hb4 y4
      go_wp2_with fail
      refine (HL.out _).mono ?_
      rintro e w5 ⟨v, rfl, ho, hb5⟩
      go_wp2
      go_ret2
      exact ⟨v, by rw [HB.out]; rfl, by rw [HB.out]; exact own_mono ho B4.size, B4.trans (hb5.mono B4.size)⟩

theorem specOrderOf_any (ao : Option Addr) (ca : Nat) (xs : List Int) (w : World) (hl : xs.length ≤ 1048576) (hx : Rd w ao xs) :
    Calls Try.prog 24 #[.slice ao xs.length ca] w (Gave w (ifR (ofB xs) (starL xs)) (ofB xs)) := by
  have h1 := specRelIn_any ao ca xs w hl hx
  unfold ofB
  cases hp : relIn xs with
  | false =>
    rw [Bool.false_and]
    rw [hp] at h1
    have H1 := Lib.hid h1
    clear h1 hp
    go_enter Try.func24, Try.ntmps24
    go_wp2_with (go_at_call 45; refine H1.out.mono ?_; rintro e w1 ⟨rfl, hd⟩)
    go_ret2
    have hh : w.heap.size = w1.heap.size := by rw [hd.heap]
    exact ⟨_, rfl, by rw [hh]; exact row_lit0 w1, (hd.below _).alloc (by omega) _⟩
  | true =>
    rw [Bool.true_and]
    rw [hp] at h1
    have R := Lib.hid (Rl.of hp)
    have H1 := Lib.hid h1
    have hsl := (Rl.of hp).star.len
    have h4 := (Rl.of hp).four
    clear h1 hp
    go_enter Try.func24, Try.ntmps24
    go_wp2_with fail
    refine H1.out.mono ?_
    rintro e w1 ⟨rfl, hd⟩
    have B1 := hd.below w.heap.size
    have hh : w1.heap.size = w.heap.size := by rw [hd.heap]
    have hx1 := hd.rd hx
    have HH := Lib.hid hh
    have HSL := Lib.hid hsl
    clear hd hx hh hsl
    go_wp2_with fail
    refine (l2Star_any ao ca xs w1 R.out hx1).mono ?_
    rintro e w2 ⟨v, rfl, ho, hb⟩
    rw [HH.out] at ho hb
    have B2 := B1.trans hb
    rw [← HSL.out] at ho
    have hse : (starL xs).length ≤ 1048576 := by rw [HSL.out]; omega
    obtain ⟨so, cs, rfl, hrs⟩ := row_rd ho
    have hq := specOrderIn_any so cs (starL xs) w2 hse hrs
    have HQ := Lib.hid hq
    clear hb B1 hq hse
    clear hrs HSL
    cases hb : ordB (starL xs) with
    | false =>
      have hq := HQ.out
      rw [hb] at hq
      have HQ := Lib.hid hq
      have HB := Lib.hid hb
      clear hq hb
      go_wp2_with fail
      refine HQ.out.mono ?_
      rintro e w3 ⟨rfl, hb3⟩
      have B3 := B2.trans (hb3.mono B2.size)
      have hr := own_mono (row_lit0 w3) B3.size
      go_wp2
      go_ret2
      exact ⟨_, by rw [HB.out]; rfl, by rw [HB.out]; exact hr, B3.alloc B3.size _⟩
    | true =>
      have hq := HQ.out
      rw [hb] at hq
      have HQ := Lib.hid hq
      have HB := Lib.hid hb
      clear hq hb
      go_wp2_with fail
      refine HQ.out.mono ?_
      rintro e w3 ⟨rfl, hb3⟩
      have B3 := B2.trans (hb3.mono B2.size)
      have ho3 := own_keep ho hb3 (fun q hq => (ho.lt q hq).2)
      clear ho hb3
      go_wp2
      go_ret2
      exact ⟨_, by rw [HB.out]; rfl, by rw [HB.out]; exact ho3, B3⟩
end Go.Proofs.Ytchbbflpckaddaa

namespace Go.Proofs.Ytchbbflpckaddaa
open Go.RowKit

theorem DrS.thenO {w wd w' : World} {R : Nat} {ao : Option Addr} {bs : List Nat} {c p q : Nat} (S : DrS w wd R ao bs c p) (T : DrS wd w' R ao bs c q) : DrS w w' R ao bs c q :=
  ⟨T.rd, S.bl.trans T.bl, Nat.le_trans S.sz T.sz, fun b hlt hne => (T.oth b (Nat.lt_of_lt_of_le hlt S.sz) hne).trans (S.oth b hlt hne)⟩
theorem DrS.hereO {w wd : World} {R : Nat} {ao : Option Addr} {bs : List Nat} {c p : Nat} (S : DrS w wd R ao bs c p) : DrS wd wd R ao bs c p :=
  ⟨S.rd, Below.refl _ _, Nat.le_refl _, fun _ _ _ => rfl⟩
theorem DrS.drewO {w wd : World} {R : Nat} {ao : Option Addr} {bs : List Nat} {c p : Nat} (S : DrS w wd R ao bs c p) : DrS w wd.drew R ao bs c p :=
  ⟨S.rd, S.bl.drew, S.sz, S.oth⟩
theorem wrapPow (n : Nat) (h4 : n ≤ 4) : IntKind.i64.wrap (2 ^ n) = ((2 ^ n : Nat) : Int) := by
  rcases (by omega : n = 0 ∨ n = 1 ∨ n = 2 ∨ n = 3 ∨ n = 4) with rfl | rfl | rfl | rfl | rfl <;> decide +kernel

set_option maxRecDepth 20000 in
set_option maxHeartbeats 8000000 in
theorem l92Order_any {w : World} {R : Nat} {ao : Option Addr} {bs : List Nat} {c p : Nat} (S : DrS w w R ao bs c p) (hb : RdB w ao bs) (hbR : bs ≠ [] → ∀ a, ao = some a → a.block < R) (hl : bs.length ≤ 2000) (hp : p ≤ 900) (n : Nat) (ni : Int) (hni : ni = (n : Int)) (h1 : 1 ≤ n) (h4 : n ≤ 4) :
    Calls Try.prog 83 #[.pointer (some ⟨R, 0, none⟩), .int .i64 ni] w fun e w' => ∃ (v : Value) (rs : List Int) (q : Nat), e = .returned v ∧ rs.length = n ∧ w'.ownsRow w.heap.size 3 1 v n (rs.map (Value.int .i64)) ∧ q ≤ p + 30 ∧ DrS w w' R ao bs c q := by
  subst hni
  have hRw : R < w.heap.size := (Array.getElem?_eq_some_iff.1 S.rd).1
  have HP := Lib.hid (fun (wr : World) (p : Nat) (S : DrS w wr R ao bs c p) (hp : p ≤ 1048576) => pick_step S hb hbR hl hp)
  have HR := Lib.hid (fun (wr : World) (p : Nat) (S : DrS w wr R ao bs c p) (hp : p ≤ 1000) => l91Rel_any S.hereO (hb.keep hbR S.bl S.sz) hbR hl hp n (n : Int) rfl h1 h4)
  obtain ⟨i0, hi, hz0, hz1, hz2⟩ := info_parts Try.info3
  have hpw := wrapPow n h4
  have HPW := Lib.hid hpw
  have h16 : 2 ^ n ≤ 16 := by rcases (by omega : n = 1 ∨ n = 2 ∨ n = 3 ∨ n = 4) with rfl | rfl | rfl | rfl <;> decide
  have h0 : 1 ≤ 2 ^ n := Nat.one_le_two_pow
  have S1 := S.step hRw (below_one w (.cells #[] 3))
  have o1 := row_lit0 w
  clear hb hbR hpw S
  go_enter Try.func83, Try.ntmps83
  go_wp2
  go_loopw [5, 6] (fun v i wr => ∃ (k q : Nat) (rs : List Int), k ≤ n ∧ i = .int .i64 k ∧ rs.length = k ∧ q ≤ p + 2 * k ∧ wr.ownsRow w.heap.size 3 1 v k (rs.map (Value.int .i64)) ∧ DrS w wr R ao bs c q)
    (fun _ i _ => n - (intOf i).toNat)
  case atStart => exact ⟨0, p, [], Nat.zero_le _, rfl, rfl, by omega, o1, S1⟩
  case round =>
    clear o1 S1
    obtain ⟨k, q, rs, hk, rfl, hrl, hq, ho, S⟩ := hrel
    by_cases hlt : k < n
    · have hi1 : ((k : Nat) : Int) < (n : Int) := by omega
      have HA := Lib.hid (HP.out wr.drew q S.drewO (by omega) (2 ^ n) _ HPW.out (by omega) (by omega))
      have HB := Lib.hid (fun (wa : World) (Sa : DrS w wa R ao bs c (q + 1)) => HP.out wa (q + 1) Sa (by omega) (2 ^ n) _ HPW.out (by omega) (by omega))
      have ho2 : wr.drew.ownsRow w.heap.size 3 1 u5 k (rs.map (Value.int .i64)) := ho
      have HRL := Lib.hid hrl
      clear ho S hrl
      go_wp2
      go_region_held_law (fun _ => True) (trivial) (first
        | (go_at_call 60; (with_reducible refine HA.out.mono ?_); rintro e wa ⟨z, hz, rfl, Sa, hsa, howna, _⟩; have hoa := howna _ _ _ _ hRw ho2; clear howna)
        | (go_at_call 60; (with_reducible refine (HB.out wa Sa).mono ?_); rintro e wb ⟨y, hy, rfl, Sb, hsb, hownb, _⟩; have hob := hownb _ _ _ _ hRw hoa; clear hownb)
        | (refine step_append_own rfl (.tmp 15) (.tmp 32) 23 rfl w.heap.size 3 i0 (.int .i64 0) 1 8 Try.underlying23 hi hz0 hz1 hz2 rfl (by decide) _ _ _ rfl (hob.alloc _) ⟨wb.heap.size, 0, none⟩ 1 1 [_] rfl rfl (cell_one_new _ _ _) (by simp [Value.oneCell']) (by unfold maxLen; omega) (by omega) (by have := Sb.sz; simp; omega) ?_; intro v' w1 hown' hgrow))
      all_goals
        have hb' := own_step' hob (Below.refl w.heap.size wb) Sb.sz _ hgrow
        have S' := Sb.step hRw hb'
        rw [map_snoc] at hown'
        have HT := Lib.hid (And.intro hown' S')
        clear hown' hgrow hb' S' hob hoa ho2 Sa Sb
        go_wp2
        go_roundw
        case rel => exact ⟨k + 1, q + 1 + 1, _, by omega, by go_num, by rw [List.length_append, HRL.out]; rfl, by omega, HT.out.1, HT.out.2⟩
        case measure => simp [intOf]; omega
    · obtain rfl : k = n := by omega
      obtain ⟨ao2, ca2, rfl, hrd⟩ := row_rd (by rw [hrl]; exact ho)
      rw [hrl] at ho ⊢
      have hc := specOrderOf_any ao2 ca2 rs wr (by omega) hrd
      rw [hrl] at hc
      have HRL := Lib.hid hrl
      have hs := S.sz
      cases hB : ofB rs with
      | false =>
        rw [hB] at hc
        have HC := Lib.hid hc
        clear hc hB hrl ho hrd
        go_wp2_with fail
        refine HC.out.mono ?_
        rintro e wd ⟨v, rfl, _, hbd⟩
        have Sd := S.step hRw (hbd.mono hs)
        have HE := Lib.hid (HR.out wd q Sd (by omega))
        clear HC hbd
        go_wp2_with fail
        refine HE.out.mono ?_
        rintro e we ⟨v, rs', q', rfl, hl', ho', hq', T⟩
        have HT := Lib.hid (And.intro hl' (And.intro ho' (And.intro hq' (And.intro T Sd))))
        clear hl' ho' hq' T Sd HE
        go_wp2
        go_ret
        exact ⟨v, rs', q', rfl, HT.out.1, own_mono HT.out.2.1 HT.out.2.2.2.2.sz, by have := HT.out.2.2.1; omega, HT.out.2.2.2.2.thenO HT.out.2.2.2.1⟩
      | true =>
        rw [hB] at hc
        have hin : relIn rs = true := by unfold ofB at hB; rw [Bool.and_eq_true] at hB; exact hB.1
        have hle := (Rl.of hin).star.len
        rw [hrl] at hle
        have HLE := Lib.hid hle
        have HC := Lib.hid hc
        clear hc hB hrl ho hle hin hrd
        go_wp2_with fail
        refine HC.out.mono ?_
        rintro e wd ⟨v, rfl, hod, hbd⟩
        have Sd := S.step hRw (hbd.mono hs)
        have hod2 : wd.ownsRow w.heap.size 3 1 v k ((starL rs).map (Value.int .i64)) := by
          have := own_mono hod hs
          rw [show (ifR true (starL rs)).length = k from HLE.out] at this
          exact this
        have HA := Lib.hid (HP.out wd q Sd (by omega) 24 (24 : Int) rfl (by omega) (by omega))
        clear HC hbd hod
        go_wp2_with fail
        refine HA.out.mono ?_
        rintro e we ⟨z, hz, rfl, Se, hse, howne, _⟩
        have hoe := howne _ _ _ _ hRw hod2
        clear howne hod2 HA
        by_cases hz0' : z = 0
        · subst hz0'
          have HE := Lib.hid (HR.out we (q + 1) Se (by omega))
          have HSE := Lib.hid Se
          clear hoe Sd Se
          go_wp2_with fail
          refine HE.out.mono ?_
          rintro e wf ⟨v', rs', q', rfl, hl', ho', hq', T⟩
          have HT := Lib.hid (And.intro hl' (And.intro ho' (And.intro hq' T)))
          clear hl' ho' hq' T HE
          go_wp2
          go_ret
          exact ⟨v', rs', q', rfl, HT.out.1, own_mono HT.out.2.1 HSE.out.sz, by have := HT.out.2.2.1; omega, HSE.out.thenO HT.out.2.2.2⟩
        · have e0 : (((z : Nat) : Int) == 0) = false := beq_eq_false_iff_ne.2 (by omega)
          have HT := Lib.hid (And.intro hoe Se)
          clear hoe Se Sd
          go_wp2
          go_ret
          exact ⟨v, starL rs, q + 1, rfl, HLE.out, HT.out.1, by omega, HT.out.2⟩

theorem l92One_any (ao : Option Addr) (c : Nat) (bs : List Nat) (w : World) (hb : RdB w ao bs) (hc : bs.length ≤ c) (hbA : bs ≠ [] → ∀ a, ao = some a → a.block < w.heap.size) :
    Calls Try.prog 43 #[.slice ao bs.length c] w fun e w' => ∃ (v : Value) (rs : List Int), e = .returned v ∧ rs.length ≤ 4 ∧ w'.ownsRow w.heap.size 3 1 v rs.length (rs.map (Value.int .i64)) ∧ Below w.heap.size w w' := by
  have HB := Lib.hid (And.intro hb hbA)
  clear hb hbA
  go_enter Try.func43, Try.ntmps43
  go_wp2_with fail
  refine (open_any ao c bs w hc).mono ?_
  rintro e w1 ⟨bs', hbs, rfl, hr, hB⟩
  have hl : bs'.length ≤ 2000 := by rw [hbs, List.length_take]; omega
  have hA : bs' ≠ [] → ∀ a, ao = some a → a.block < w.heap.size := fun h => HB.out.2 (fun e => h (by rw [hbs, e]; rfl))
  have HA := Lib.hid hA
  clear hA
  have hb1 : RdB w1 ao bs' := by rw [hbs]; exact (HB.out.1.take 2000).below hB
  have S : DrS w1 w1 w.heap.size ao bs' c 0 := ⟨hr, Below.refl _ _, Nat.le_refl _, fun _ _ _ => rfl⟩
  have HC := Lib.hid (pick_step S hb1 HA.out hl (by omega) 4 4 rfl (by omega) (by omega))
  clear hr hbs
  go_wp2_with fail
  refine HC.out.mono ?_
  rintro e w2 ⟨k, hk, rfl, S2, hss, _, _⟩
  have hb2 := hb1.keep HA.out S2.bl S2.sz
  have HD := Lib.hid (l92Order_any S2.hereO hb2 HA.out hl (by omega) (1 + k) (1 + (k : Int)) (by omega) (by omega) (by omega))
  have hB2 : Below w.heap.size w w2 := hB.trans S2.bl
  have hsz2 := hB2.size
  have HS := Lib.hid hB2
  clear HC S S2 hb1 hb2 hB hB2 hss
  go_wp2_with fail
  refine HD.out.mono ?_
  rintro e w3 ⟨v, rs, q, rfl, hrl, ho, _, S4⟩
  have HR := Lib.hid (And.intro hrl (And.intro ho S4))
  clear hrl ho S4 HD
  go_wp2
  go_ret
  exact ⟨v, rs, rfl, by have := HR.out.1; omega, by rw [HR.out.1]; exact own_mono HR.out.2.1 hsz2, HS.out.trans HR.out.2.2.bl⟩
theorem drawOrderIn_any (ao : Option Addr) (c : Nat) (bs : List Nat) (w : World) (hb : RdB w ao bs) (hc : bs.length ≤ c) (hbA : bs ≠ [] → ∀ a, ao = some a → a.block < w.heap.size) :
    Calls Try.prog 11 #[.slice ao bs.length c] w fun e w' => ∃ (v : Value) (rs : List Int), e = .returned v ∧ rs.length ≤ 4 ∧ w'.ownsRow w.heap.size 3 1 v rs.length (rs.map (Value.int .i64)) ∧ Below w.heap.size w w' := by
  have HD := Lib.hid (l92One_any ao c bs w hb hc hbA)
  clear hb hbA
  go_enter Try.func11, Try.ntmps11
  go_wp2_with fail
  refine HD.out.mono ?_
  rintro e w3 ⟨v, rs, rfl, hrl, ho, hB⟩
  have HR := Lib.hid (And.intro hrl (And.intro ho hB))
  clear hrl ho hB HD
  go_wp2
  go_ret
  exact ⟨v, rs, rfl, HR.out⟩
theorem drawOrderCovers_any (ao : Option Addr) (c : Nat) (bs : List Nat) (w : World) (hb : RdB w ao bs) (hc : bs.length ≤ c) (hbA : bs ≠ [] → ∀ a, ao = some a → a.block < w.heap.size) :
    Calls Try.prog 16 #[.slice ao bs.length c] w fun e w' => ∃ (v : Value) (rs : List Int), e = .returned v ∧ rs.length ≤ 4 ∧ w'.ownsRow w.heap.size 3 1 v rs.length (rs.map (Value.int .i64)) ∧ Below w.heap.size w w' := by
  have HD := Lib.hid (l92One_any ao c bs w hb hc hbA)
  clear hb hbA
  go_enter Try.func16, Try.ntmps16
  go_wp2_with fail
  refine HD.out.mono ?_
  rintro e w3 ⟨v, rs, rfl, hrl, ho, hB⟩
  have HR := Lib.hid (And.intro hrl (And.intro ho hB))
  clear hrl ho hB HD
  go_wp2
  go_ret
  exact ⟨v, rs, rfl, HR.out⟩
theorem drawOrderLattice_any (ao : Option Addr) (c : Nat) (bs : List Nat) (w : World) (hb : RdB w ao bs) (hc : bs.length ≤ c) (hbA : bs ≠ [] → ∀ a, ao = some a → a.block < w.heap.size) :
    Calls Try.prog 29 #[.slice ao bs.length c] w fun e w' => ∃ (v : Value) (rs : List Int), e = .returned v ∧ rs.length ≤ 4 ∧ w'.ownsRow w.heap.size 3 1 v rs.length (rs.map (Value.int .i64)) ∧ Below w.heap.size w w' := by
  have HD := Lib.hid (l92One_any ao c bs w hb hc hbA)
  clear hb hbA
  go_enter Try.func29, Try.ntmps29
  go_wp2_with fail
  refine HD.out.mono ?_
  rintro e w3 ⟨v, rs, rfl, hrl, ho, hB⟩
  have HR := Lib.hid (And.intro hrl (And.intro ho hB))
  clear hrl ho hB HD
  go_wp2
  go_ret
  exact ⟨v, rs, rfl, HR.out⟩
theorem drawOrderWays_any (ao : Option Addr) (c : Nat) (bs : List Nat) (w : World) (hb : RdB w ao bs) (hc : bs.length ≤ c) (hbA : bs ≠ [] → ∀ a, ao = some a → a.block < w.heap.size) :
    Calls Try.prog 33 #[.slice ao bs.length c] w fun e w' => ∃ (v : Value) (rs : List Int), e = .returned v ∧ rs.length ≤ 4 ∧ w'.ownsRow w.heap.size 3 1 v rs.length (rs.map (Value.int .i64)) ∧ Below w.heap.size w w' := by
  have HD := Lib.hid (l92One_any ao c bs w hb hc hbA)
  clear hb hbA
  go_enter Try.func33, Try.ntmps33
  go_wp2_with fail
  refine HD.out.mono ?_
  rintro e w3 ⟨v, rs, rfl, hrl, ho, hB⟩
  have HR := Lib.hid (And.intro hrl (And.intro ho hB))
  clear hrl ho hB HD
  go_wp2
  go_ret
  exact ⟨v, rs, rfl, HR.out⟩
theorem drawOrderFirst_any (ao : Option Addr) (c : Nat) (bs : List Nat) (w : World) (hb : RdB w ao bs) (hc : bs.length ≤ c) (hbA : bs ≠ [] → ∀ a, ao = some a → a.block < w.heap.size) :
    Calls Try.prog 36 #[.slice ao bs.length c] w fun e w' => ∃ (v : Value) (rs : List Int), e = .returned v ∧ rs.length ≤ 4 ∧ w'.ownsRow w.heap.size 3 1 v rs.length (rs.map (Value.int .i64)) ∧ Below w.heap.size w w' := by
  have HD := Lib.hid (l92One_any ao c bs w hb hc hbA)
  clear hb hbA
  go_enter Try.func36, Try.ntmps36
  go_wp2_with fail
  refine HD.out.mono ?_
  rintro e w3 ⟨v, rs, rfl, hrl, ho, hB⟩
  have HR := Lib.hid (And.intro hrl (And.intro ho hB))
  clear hrl ho hB HD
  go_wp2
  go_ret
  exact ⟨v, rs, rfl, HR.out⟩
end Go.Proofs.Ytchbbflpckaddaa
