/-
  The draw of an order: l92Order, l92One and the draws made of it; for whatever bytes.
-/
import Derived.Test.YtnmgoeklcmoalaaDE
import Derived.Test.YtnmgoeklcmoalaaOE
import Derived.Deep.RegionHeldLaw
namespace Go.Proofs.Ytnmgoeklcmoalaa
open Go.RowKit

theorem DrS.thenO {w wd w' : World} {R : Nat} {ao : Option Addr} {bs : List Nat} {c p q : Nat} (S : DrS w wd R ao bs c p) (T : DrS wd w' R ao bs c q) : DrS w w' R ao bs c q :=
  ⟨T.rd, S.bl.trans T.bl, Nat.le_trans S.sz T.sz, fun b hlt hne => (T.oth b (Nat.lt_of_lt_of_le hlt S.sz) hne).trans (S.oth b hlt hne)⟩
theorem DrS.hereO {w wd : World} {R : Nat} {ao : Option Addr} {bs : List Nat} {c p : Nat} (S : DrS w wd R ao bs c p) : DrS wd wd R ao bs c p :=
  ⟨S.rd, Below.refl _ _, Nat.le_refl _, fun _ _ _ => rfl⟩
theorem DrS.drewO {w wd : World} {R : Nat} {ao : Option Addr} {bs : List Nat} {c p : Nat} (S : DrS w wd R ao bs c p) : DrS w wd.drew R ao bs c p :=
  ⟨S.rd, S.bl.drew, S.sz, S.oth⟩
theorem wrapPow (n : Nat) (h4 : n ≤ 4) : IntKind.i64.wrap (2 ^ n) = ((2 ^ n : Nat) : Int) := by
  rcases (by omega : n = 0 ∨ n = 1 ∨ n = 2 ∨ n = 3 ∨ n = 4) with rfl | rfl | rfl | rfl | rfl <;> decide +kernel

set_option maxRecDepth 20000 in
set_option maxHeartbeats 8000000 in
theorem l92Order_any {w : World} {R : Nat} {ao : Option Addr} {bs : List Nat} {c p : Nat} (S : DrS w w R ao bs c p) (hb : RdB w ao bs) (hbR : bs ≠ [] → ∀ a, ao = some a → a.block < R) (hl : bs.length ≤ 2000) (hp : p ≤ 900) (n : Nat) (ni : Int) (hni : ni = (n : Int)) (h1 : 1 ≤ n) (h4 : n ≤ 4) :
    Calls Try.prog 93 #[.pointer (some ⟨R, 0, none⟩), .int .i64 ni] w fun e w' => ∃ (v : Value) (rs : List Int) (q : Nat), e = .returned v ∧ rs.length = n ∧ w'.ownsRow w.heap.size 3 1 v n (rs.map (Value.int .i64)) ∧ q ≤ p + 30 ∧ DrS w w' R ao bs c q := by
  subst hni
  have hRw : R < w.heap.size := (Array.getElem?_eq_some_iff.1 S.rd).1
  have HP := Lib.hid (fun (wr : World) (p : Nat) (S : DrS w wr R ao bs c p) (hp : p ≤ 1048576) => pick_step S hb hbR hl hp)
  have HR := Lib.hid (fun (wr : World) (p : Nat) (S : DrS w wr R ao bs c p) (hp : p ≤ 1000) => l91Rel_any S.hereO (hb.keep hbR S.bl S.sz) hbR hl hp n (n : Int) rfl h1 h4)
  obtain ⟨i0, hi, hz0, hz1, hz2⟩ := info_parts Try.info3
  have hpw := wrapPow n h4
  have HPW := Lib.hid hpw
  have h16 : 2 ^ n ≤ 16 := by rcases (by omega : n = 1 ∨ n = 2 ∨ n = 3 ∨ n = 4) with rfl | rfl | rfl | rfl <;> decide
  have h0 : 1 ≤ 2 ^ n := Nat.one_le_two_pow
  have S1 := S.step hRw (below_one w (.cells #[] 3))
  have o1 := row_lit0 w
  clear hb hbR hpw S
  go_enter Try.func93, Try.ntmps93
  go_wp2
  go_loopw [5, 6] (fun v i wr => ∃ (k q : Nat) (rs : List Int), k ≤ n ∧ i = .int .i64 k ∧ rs.length = k ∧ q ≤ p + 2 * k ∧ wr.ownsRow w.heap.size 3 1 v k (rs.map (Value.int .i64)) ∧ DrS w wr R ao bs c q)
    (fun _ i _ => n - (intOf i).toNat)
  case atStart => exact ⟨0, p, [], Nat.zero_le _, rfl, rfl, by omega, o1, S1⟩
  case round =>
    clear o1 S1
    obtain ⟨k, q, rs, hk, rfl, hrl, hq, ho, S⟩ := hrel
    by_cases hlt : k < n
    · have hi1 : ((k : Nat) : Int) < (n : Int) := by omega
      have HA := Lib.hid (HP.out wr.drew q S.drewO (by omega) (2 ^ n) _ HPW.out (by omega) (by omega))
      have HB := Lib.hid (fun (wa : World) (Sa : DrS w wa R ao bs c (q + 1)) => HP.out wa (q + 1) Sa (by omega) (2 ^ n) _ HPW.out (by omega) (by omega))
      have ho2 : wr.drew.ownsRow w.heap.size 3 1 u5 k (rs.map (Value.int .i64)) := ho
      have HRL := Lib.hid hrl
      clear ho S hrl
      go_wp2
      go_region_held_law (fun _ => True) (trivial) (first
        | (go_at_call 53; (with_reducible refine HA.out.mono ?_); rintro e wa ⟨z, hz, rfl, Sa, hsa, howna, _⟩; have hoa := howna _ _ _ _ hRw ho2; clear howna)
        | (go_at_call 53; (with_reducible refine (HB.out wa Sa).mono ?_); rintro e wb ⟨y, hy, rfl, Sb, hsb, hownb, _⟩; have hob := hownb _ _ _ _ hRw hoa; clear hownb)
        | (refine step_append_own rfl (.tmp 15) (.tmp 32) 23 rfl w.heap.size 3 i0 (.int .i64 0) 1 8 Try.underlying23 hi hz0 hz1 hz2 rfl (by decide) _ _ _ rfl (hob.alloc _) ⟨wb.heap.size, 0, none⟩ 1 1 [_] rfl rfl (cell_one_new _ _ _) (by simp [Value.oneCell']) (by unfold maxLen; omega) (by omega) (by have := Sb.sz; simp; omega) ?_; intro v' w1 hown' hgrow))
      all_goals
        have hb' := own_step' hob (Below.refl w.heap.size wb) Sb.sz _ hgrow
        have S' := Sb.step hRw hb'
        rw [map_snoc] at hown'
        have HT := Lib.hid (And.intro hown' S')
        clear hown' hgrow hb' S' hob hoa ho2 Sa Sb
        go_wp2
        go_roundw
        case rel => exact ⟨k + 1, q + 1 + 1, _, by omega, by go_num, by rw [List.length_append, HRL.out]; rfl, by omega, HT.out.1, HT.out.2⟩
        case measure => simp [intOf]; omega
    · obtain rfl : k = n := by omega
      obtain ⟨ao2, ca2, rfl, hrd⟩ := row_rd (by rw [hrl]; exact ho)
      rw [hrl] at ho ⊢
      have hc := specOrderOf_any ao2 ca2 rs wr (by omega) hrd
      rw [hrl] at hc
      have HRL := Lib.hid hrl
      have hs := S.sz
      cases hB : ofB rs with
      | false =>
        rw [hB] at hc
        have HC := Lib.hid hc
        clear hc hB hrl ho hrd
        go_wp2_with fail
        refine HC.out.mono ?_
        rintro e wd ⟨v, rfl, _, hbd⟩
        have Sd := S.step hRw (hbd.mono hs)
        have HE := Lib.hid (HR.out wd q Sd (by omega))
        clear HC hbd
        go_wp2_with fail
        refine HE.out.mono ?_
        rintro e we ⟨v, rs', q', rfl, hl', ho', hq', T⟩
        have HT := Lib.hid (And.intro hl' (And.intro ho' (And.intro hq' (And.intro T Sd))))
        clear hl' ho' hq' T Sd HE
        go_wp2
        go_ret
        exact ⟨v, rs', q', rfl, HT.out.1, own_mono HT.out.2.1 HT.out.2.2.2.2.sz, by have := HT.out.2.2.1; omega, HT.out.2.2.2.2.thenO HT.out.2.2.2.1⟩
      | true =>
        rw [hB] at hc
        have hin : relIn rs = true := by unfold ofB at hB; rw [Bool.and_eq_true] at hB; exact hB.1
        have hle := (Rl.of hin).star.len
        rw [hrl] at hle
        have HLE := Lib.hid hle
        have HC := Lib.hid hc
        clear hc hB hrl ho hle hin hrd
        go_wp2_with fail
        refine HC.out.mono ?_
        rintro e wd ⟨v, rfl, hod, hbd⟩
        have Sd := S.step hRw (hbd.mono hs)
        have hod2 : wd.ownsRow w.heap.size 3 1 v k ((starL rs).map (Value.int .i64)) := by
          have := own_mono hod hs
          rw [show (ifR true (starL rs)).length = k from HLE.out] at this
          exact this
        have HA := Lib.hid (HP.out wd q Sd (by omega) 24 (24 : Int) rfl (by omega) (by omega))
        clear HC hbd hod
        go_wp2_with fail
        refine HA.out.mono ?_
        rintro e we ⟨z, hz, rfl, Se, hse, howne, _⟩
        have hoe := howne _ _ _ _ hRw hod2
        clear howne hod2 HA
        by_cases hz0' : z = 0
        · subst hz0'
          have HE := Lib.hid (HR.out we (q + 1) Se (by omega))
          have HSE := Lib.hid Se
          clear hoe Sd Se
          go_wp2_with fail
          refine HE.out.mono ?_
          rintro e wf ⟨v', rs', q', rfl, hl', ho', hq', T⟩
          have HT := Lib.hid (And.intro hl' (And.intro ho' (And.intro hq' T)))
          clear hl' ho' hq' T HE
          go_wp2
          go_ret
          exact ⟨v', rs', q', rfl, HT.out.1, own_mono HT.out.2.1 HSE.out.sz, by have := HT.out.2.2.1; omega, HSE.out.thenO HT.out.2.2.2⟩
        · have e0 : (((z : Nat) : Int) == 0) = false := beq_eq_false_iff_ne.2 (by omega)
          have HT := Lib.hid (And.intro hoe Se)
          clear hoe Se Sd
          go_wp2
          go_ret
          exact ⟨v, starL rs, q + 1, rfl, HLE.out, HT.out.1, by omega, HT.out.2⟩

theorem l92One_any (ao : Option Addr) (c : Nat) (bs : List Nat) (w : World) (hb : RdB w ao bs) (hc : bs.length ≤ c) (hbA : bs ≠ [] → ∀ a, ao = some a → a.block < w.heap.size) :
    Calls Try.prog 51 #[.slice ao bs.length c] w fun e w' => ∃ (v : Value) (rs : List Int), e = .returned v ∧ rs.length ≤ 4 ∧ w'.ownsRow w.heap.size 3 1 v rs.length (rs.map (Value.int .i64)) ∧ Below w.heap.size w w' := by
  have HB := Lib.hid (And.intro hb hbA)
  clear hb hbA
  go_enter Try.func51, Try.ntmps51
  go_wp2_with fail
  refine (open_any ao c bs w hc).mono ?_
  rintro e w1 ⟨bs', hbs, rfl, hr, hB⟩
  have hl : bs'.length ≤ 2000 := by rw [hbs, List.length_take]; omega
  have hA : bs' ≠ [] → ∀ a, ao = some a → a.block < w.heap.size := fun h => HB.out.2 (fun e => h (by rw [hbs, e]; rfl))
  have HA := Lib.hid hA
  clear hA
  have hb1 : RdB w1 ao bs' := by rw [hbs]; exact (HB.out.1.take 2000).below hB
  have S : DrS w1 w1 w.heap.size ao bs' c 0 := ⟨hr, Below.refl _ _, Nat.le_refl _, fun _ _ _ => rfl⟩
  have HC := Lib.hid (pick_step S hb1 HA.out hl (by omega) 4 4 rfl (by omega) (by omega))
  clear hr hbs
  go_wp2_with fail
  refine HC.out.mono ?_
  rintro e w2 ⟨k, hk, rfl, S2, hss, _, _⟩
  have hb2 := hb1.keep HA.out S2.bl S2.sz
  have HD := Lib.hid (l92Order_any S2.hereO hb2 HA.out hl (by omega) (1 + k) (1 + (k : Int)) (by omega) (by omega) (by omega))
  have hB2 : Below w.heap.size w w2 := hB.trans S2.bl
  have hsz2 := hB2.size
  have HS := Lib.hid hB2
  clear HC S S2 hb1 hb2 hB hB2 hss
  go_wp2_with fail
  refine HD.out.mono ?_
  rintro e w3 ⟨v, rs, q, rfl, hrl, ho, _, S4⟩
  have HR := Lib.hid (And.intro hrl (And.intro ho S4))
  clear hrl ho S4 HD
  go_wp2
  go_ret
  exact ⟨v, rs, rfl, by have := HR.out.1; omega, by rw [HR.out.1]; exact own_mono HR.out.2.1 hsz2, HS.out.trans HR.out.2.2.bl⟩
end Go.Proofs.Ytnmgoeklcmoalaa
