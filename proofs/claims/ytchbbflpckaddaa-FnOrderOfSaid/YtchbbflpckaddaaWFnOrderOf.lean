/-
  The walk of FnOrderOf, out of the contracts of the draw and of the functions that it calls; for whatever bytes.
-/
import Derived.Test.YtchbbflpckaddaaH
import Derived.Test.YtchbbflpckaddaaDA
import Derived.Test.YtchbbflpckaddaaDF
import Derived.Test.YtchbbflpckaddaaOI
import Derived.Test.YtchbbflpckaddaaOW
import Derived.Test.YtchbbflpckaddaaS
namespace Go.Proofs.Ytchbbflpckaddaa
open Go.RowKit

set_option maxHeartbeats 1000000 in
theorem sameInts_any (ao bo : Option Addr) (ca cb : Nat) (xs ys : List Int) (w : World) (hl : xs.length ≤ 1048576) (hl2 : ys.length ≤ 1048576) (hx : Rd w ao xs) (hy : Rd w bo ys) :
    Calls Try.prog 19 #[.slice ao xs.length ca, .slice bo ys.length cb] w fun e w' => e = .returned (.bool (decide (xs = ys))) ∧ Dn w w' := by
  go_enter Try.func19, Try.ntmps19
  by_cases hne : xs.length = ys.length
  · have h1 : ((xs.length : Int) != (ys.length : Int)) = false := by simp [hne]
    have hlen := Lib.hid hne
    clear hne
    go_wp2
    go_loopw [5] (fun i wr => ∃ k : Nat, k ≤ xs.length ∧ i = .int .i64 k ∧ xs.take k = ys.take k ∧ Dn w wr)
      (fun i _ => xs.length - (intOf i).toNat)
    case atStart => exact ⟨0, Nat.zero_le _, rfl, rfl, Dn.refl _⟩
    case round =>
      obtain ⟨k, hk, rfl, ht, hd⟩ := hrel
      have HT := Lib.hid ht
      clear ht
      by_cases hlt : k < xs.length
      · have hlt2 : k < ys.length := by rw [← hlen.out]; exact hlt
        obtain ⟨b, off, x, hxk, rfl, hbl, hc1⟩ := (hd.rd hx).get k hlt
        obtain ⟨b2, off2, y, hyk, rfl, hbl2, hc2⟩ := (hd.rd hy).get k hlt2
        have hi1 : ((k : Nat) : Int) < (xs.length : Int) := by omega
        have hi2 : ((k : Nat) : Int) < (ys.length : Int) := by omega
        have HX := Lib.hid hxk
        have HY := Lib.hid hyk
        clear hx hy hxk hyk
        go_wp2
        go_quiet (fail)
        by_cases heq : x = y
        · have h2 : (x != y) = false := by simp [heq]
          have HE := Lib.hid heq
          clear heq
          go_wp2
          go_roundw
          case rel =>
            refine ⟨k + 1, by omega, by go_num, ?_, hd.trans (Dn.drewN _ _)⟩
            rw [List.take_add_one, List.take_add_one, HT.out, HX.out, HY.out, HE.out]
          case measure => simp [intOf]; omega
        · go_wp2
          go_ret
          have hd' : ¬ xs = ys := by
            rintro rfl
            have := HX.out.symm.trans HY.out
            exact heq (by simpa using this)
          exact ⟨by simp [hd'], hd.trans (Dn.drewN _ _)⟩
      · go_wp2
        go_ret
        obtain rfl : k = xs.length := by omega
        have := HT.out
        rw [List.take_length, hlen.out, List.take_length] at this
        exact ⟨by simp [this], hd⟩
  · have h1 : ((xs.length : Int) != (ys.length : Int)) = true := by simp; omega
    go_wp2
    go_ret
    refine ⟨?_, Dn.refl _⟩
    have : ¬ xs = ys := fun h => hne (by rw [h])
    simp [this]

theorem sameInts_refl (ao bo : Option Addr) (ca cb : Nat) (xs : List Int) (w : World) (hl : xs.length ≤ 1048576) (hx : Rd w ao xs) (hy : Rd w bo xs) :
    Calls Try.prog 19 #[.slice ao xs.length ca, .slice bo xs.length cb] w fun e w' => e = .returned (.bool true) ∧ Dn w w' := by
  refine (sameInts_any ao bo ca cb xs xs w hl hl hx hy).mono ?_
  rintro e w' ⟨rfl, hd⟩
  exact ⟨by simp, hd⟩

/-- a slice of bytes that came in reads as bytes -/
theorem rdB_of_row {w : World} {a : Option Addr} {len cap : Nat} {zs : List Int}
    (h : (a = none ∧ len = 0 ∧ cap = 0 ∧ zs = []) ∨
      ∃ x, a = some x ∧ len ≤ cap ∧ cap ≤ maxLen ∧ zs.length = cap ∧ (∀ i, i < zs.length → w.cell? (x.add i) = some (.int .u8 (zs.getD i 0))) ∧ ∀ n ∈ zs, (Lit.int .u8 n).wf = true) :
    ∃ bs : List Nat, bs.length = len ∧ len ≤ maxLen ∧ len ≤ cap ∧ RdB w a bs ∧ (bs ≠ [] → ∀ y, a = some y → y.block < w.heap.size) := by
  rcases h with ⟨rfl, rfl, rfl, rfl⟩ | ⟨x, rfl, hlc, hcm, hz, hc, hwf⟩
  · exact ⟨[], rfl, Nat.zero_le _, Nat.le_refl _, fun k x hx => by simp at hx, fun h => absurd rfl h⟩
  · have key : ∀ k, k < len → (zs.getD k 0).toNat < 256 ∧ ((zs.getD k 0).toNat : Int) = zs.getD k 0 ∧ ∃ b off, x = ⟨b, off, none⟩ ∧ b < w.heap.size ∧ w.cell? ⟨b, off + k, none⟩ = some (.int .u8 (zs.getD k 0)) := by
      intro k hk
      have h1 := hc k (by omega)
      have hm : zs.getD k 0 ∈ zs := by
        rw [List.getD_eq_getElem?_getD, List.getElem?_eq_getElem (by omega)]
        exact List.getElem_mem _
      obtain ⟨y, hy⟩ : ∃ y, zs.getD k 0 = y := ⟨_, rfl⟩
      rw [hy] at hm h1 ⊢
      have hb := hwf _ hm
      simp [Lit.wf, IntKind.min, IntKind.max, IntKind.bits, IntKind.signed] at hb
      refine ⟨by omega, by omega, ?_⟩
      obtain ⟨b, off, sp⟩ := x
      cases sp with
      | none =>
        have hadd : (⟨b, off, none⟩ : Addr).add k = ⟨b, off + k, none⟩ := by unfold Addr.add; split <;> simp_all
        rw [hadd] at h1
        refine ⟨b, off, rfl, ?_, h1⟩
        unfold World.cell? at h1
        cases hh : w.heap[b]? with
        | none => rw [hh] at h1; simp at h1
        | some o => exact (Array.getElem?_eq_some_iff.1 hh).1
      | some s =>
        exfalso
        have h0 := hc 0 (by omega)
        unfold World.cell? Addr.add at h0
        simp at h0
        split at h0 <;> simp_all
    refine ⟨(zs.take len).map Int.toNat, by simp; omega, by omega, hlc, ?_, ?_⟩
    · intro k y hy
      have hk : k < len := by
        have := (List.getElem?_eq_some_iff.1 hy).1
        simp at this
        omega
      obtain ⟨h1, h2, b, off, rfl, h3, h4⟩ := key k hk
      have hy2 : y = (zs.getD k 0).toNat := by
        rw [List.getElem?_map, List.getElem?_take, if_pos hk, List.getElem?_eq_getElem (by omega)] at hy
        have hg : zs.getD k 0 = zs[k]'(by omega) := by rw [List.getD_eq_getElem?_getD, List.getElem?_eq_getElem (by omega)]; rfl
        rw [hg]
        simpa using hy.symm
      rw [hy2]
      exact ⟨h1, b, off, rfl, h3, by rw [h2]; exact h4⟩
    · intro hne y hy
      cases hy
      have hlen : 0 < len := by
        rcases Nat.eq_zero_or_pos len with e | e
        · exact absurd (by rw [e]; rfl) hne
        · exact e
      obtain ⟨_, _, b, off, rfl, h3, _⟩ := key 0 hlen
      exact h3

end Go.Proofs.Ytchbbflpckaddaa

namespace Go.Proofs.Ytchbbflpckaddaa
open Go.RowKit

set_option maxRecDepth 20000 in
set_option maxHeartbeats 8000000 in
theorem drawOrderOf_any (ao : Option Addr) (c : Nat) (bs : List Nat) (w : World) (hb : RdB w ao bs) (hc : bs.length ≤ c) (hbA : bs ≠ [] → ∀ a, ao = some a → a.block < w.heap.size) :
    Calls Try.prog 22 #[.slice ao bs.length c] w (Drew w) := by
  have HB := Lib.hid (And.intro hb hbA)
  obtain ⟨i0, hi, hz0, hz1, hz2⟩ := info_parts Try.info3
  clear hb hbA
  go_enter Try.func22, Try.ntmps22
  go_wp2_with fail
  refine (open_any ao c bs w hc).mono ?_
  rintro e w1 ⟨bs', hbs, rfl, hr, hB⟩
  have hl : bs'.length ≤ 2000 := by rw [hbs, List.length_take]; omega
  have hA : bs' ≠ [] → ∀ a, ao = some a → a.block < w.heap.size := fun h => HB.out.2 (fun e => h (by rw [hbs, e]; rfl))
  have HA := Lib.hid hA
  clear hA
  have hb1 : RdB w1 ao bs' := by rw [hbs]; exact (HB.out.1.take 2000).below hB
  have S : DrS w1 w1 w.heap.size ao bs' c 0 := ⟨hr, Below.refl _ _, Nat.le_refl _, fun _ _ _ => rfl⟩
  have HC := Lib.hid (pick_step S hb1 HA.out hl (by omega) 4 4 rfl (by omega) (by omega))
  clear hr hbs
  go_wp2_with fail
  refine HC.out.mono ?_
  rintro e w2 ⟨k, hk, rfl, S2, hss, _, _⟩
  have hb2 := hb1.keep HA.out S2.bl S2.sz
  have hB2 : Below w.heap.size w w2 := hB.trans S2.bl
  have hRw : w.heap.size < w2.heap.size := (Array.getElem?_eq_some_iff.1 S2.rd).1
  have HP := Lib.hid (fun (wr : World) (p : Nat) (S : DrS w2 wr w.heap.size ao bs' c p) (hp : p ≤ 1048576) => pick_step S hb2 HA.out hl hp)
  have HR := Lib.hid (fun (wr : World) (p : Nat) (S : DrS w2 wr w.heap.size ao bs' c p) (hp : p ≤ 1000) => l91Rel_any (DrS.hereO S) (hb2.keep HA.out S.bl S.sz) HA.out hl hp (1 + k) (1 + (k : Int)) (by omega) (by omega) (by omega))
  have HS := Lib.hid hB2
  have S3 : DrS w2 w2 w.heap.size ao bs' c 1 := DrS.hereO S2
  have S4 := S3.step hRw (below_one w2 (.cells #[] 3))
  have ho1 := row_lit0 w2
  clear HC S S2 S3 hb1 hb2 hB hB2 hss
  obtain ⟨n, hn⟩ : ∃ n, n = 1 + k := ⟨_, rfl⟩
  have hni : (1 + (k : Int)) = (n : Int) := by omega
  have h1 : 1 ≤ n := by omega
  have h4 : n ≤ 4 := by omega
  have h16 : 2 ^ n ≤ 16 := by rcases (by omega : n = 1 ∨ n = 2 ∨ n = 3 ∨ n = 4) with rfl | rfl | rfl | rfl <;> decide
  have h0 : 1 ≤ 2 ^ n := Nat.one_le_two_pow
  rw [← hn, hni] at HR
  have hpw : wrap64 ((2 : Int) ^ n) = ((2 ^ n : Nat) : Int) := by
    rcases (by omega : n = 1 ∨ n = 2 ∨ n = 3 ∨ n = 4) with rfl | rfl | rfl | rfl <;> decide +kernel
  have HPW := Lib.hid hpw
  clear hpw
  clear hn
  go_wp2
  try rw [hni]
  clear hni hk
  go_loopw [5, 6] (fun v i wr => ∃ (m q : Nat) (rs : List Int), m ≤ n ∧ i = .int .i64 m ∧ rs.length = m ∧ q ≤ 1 + m ∧ wr.ownsRow w2.heap.size 3 1 v m (rs.map (Value.int .i64)) ∧ DrS w2 wr w.heap.size ao bs' c q)
    (fun _ i _ => n - (intOf i).toNat)
  case atStart => exact ⟨0, 1, [], Nat.zero_le _, rfl, rfl, by omega, ho1, S4⟩
  case round =>
    clear ho1 S4
    obtain ⟨m, q, rs, hm, rfl, hrl, hq, ho, S⟩ := hrel
    by_cases hlt : m < n
    · have hi1 : ((m : Nat) : Int) < (n : Int) := by omega
      have HA1 := Lib.hid (HP.out wr q S (by omega) (2 ^ n) _ HPW.out (by omega) (by omega))
      have HO := Lib.hid ho
      clear S ho
      go_wp2_with fail
      refine HA1.out.mono ?_
      rintro e wc ⟨x, hx, rfl, S, hs2, hown, _⟩
      have ho := hown _ _ _ _ hRw HO.out
      clear hown HA1 HO hs2
      go_wp2_with (at_builtin; refine wpList_append_own _ rfl (.tmp 18) (.tmp 27) 23 rfl w2.heap.size 3 i0 (.int .i64 0) 1 8 Try.underlying23 hi hz0 hz1 hz2 rfl (by decide) _ _ _ rfl (ho.alloc _) ⟨wc.heap.size, 0, none⟩ 1 1 [_] rfl rfl (cell_one_new _ _ _) (by simp [Value.oneCell']) (by unfold maxLen; omega) (by omega) (by have := S.sz; simp; omega) ?_)
      intro v' w5 hown' hgrow _
      have hb' := own_step' ho (Below.refl _ _) S.sz _ hgrow
      have S' := S.step hRw hb'
      rw [map_snoc] at hown'
      clear ho S hgrow hb'
      go_wp2
      go_roundw
      case rel => exact ⟨m + 1, q + 1, rs ++ [_], by omega, by go_num, by rw [List.length_append, hrl]; rfl, by omega, hown', S'⟩
      case measure => simp [intOf]; omega
    · obtain rfl : m = n := by omega
      have HA1 := Lib.hid (HP.out wr q S (by omega) 4 4 rfl (by omega) (by omega))
      have HO := Lib.hid (And.intro hrl ho)
      clear S ho hrl
      go_wp2_with fail
      refine HA1.out.mono ?_
      rintro e wc ⟨z, hz, rfl, S, hs2, hown, _⟩
      have ho := hown _ _ _ _ hRw HO.out.2
      by_cases hz0' : z = 0
      · subst hz0'
        have HE := Lib.hid (HR.out wc (q + 1) S (by omega))
        have HSE := Lib.hid S
        clear hown HA1 ho S
        go_wp2_with fail
        refine HE.out.mono ?_
        rintro e wf ⟨v', rs', q', rfl, hl', ho', hq', T⟩
        have HT := Lib.hid (And.intro hl' (And.intro ho' T))
        clear hl' ho' hq' T HE
        go_wp2
        go_ret
        have hb9 := HS.out.trans HSE.out.bl
        exact ⟨v', rs', rfl, by have := HT.out.1; omega, by rw [HT.out.1]; exact own_mono HT.out.2.1 hb9.size, hb9.trans HT.out.2.2.bl⟩
      · have e0 : (((z : Nat) : Int) == 0) = false := beq_eq_false_iff_ne.2 (by omega)
        have HT := Lib.hid (And.intro ho S)
        clear hown HA1 ho S
        go_wp2
        go_ret
        exact ⟨_, rs, rfl, by have := HO.out.1; omega, by rw [HO.out.1]; exact own_mono HT.out.1 HS.out.size, HS.out.trans HT.out.2.bl⟩
end Go.Proofs.Ytchbbflpckaddaa

namespace Go.Proofs.Ytchbbflpckaddaa
open Go.RowKit

theorem sameInts_eqF (ao bo : Option Addr) (ca cb : Nat) (xs ys : List Int) (w : World) (he : xs = ys) (hl : xs.length ≤ 1048576) (hx : Rd w ao xs) (hy : Rd w bo ys) :
    Calls Try.prog 19 #[.slice ao xs.length ca, .slice bo ys.length cb] w fun e w' => e = .returned (.bool true) ∧ Dn w w' := by
  subst he
  exact sameInts_refl ao bo ca cb xs w hl hx hy
theorem fShort {n : Nat} {a : List Int} (R : Rl n a) : a.length ≤ 1048576 := by
  have := R.len
  have := R.four
  omega
theorem fRel {a : List Int} (h : ofB a = true) : Rl a.length a := by
  unfold ofB at h
  rw [Bool.and_eq_true] at h
  exact Rl.of h.1
theorem fOrd {a : List Int} (h : ofB a = true) : ordB (starL a) = true := by
  unfold ofB at h
  rw [Bool.and_eq_true] at h
  exact h.2
theorem fTwice {a : List Int} (h : ofB a = true) : starL (starL a) = starL a := by
  have := sts_all (starL a) (ord_enum (fOrd h))
  unfold stsF at this
  exact of_decide_eq_true this
theorem fOrderOf {a : List Int} (h : ofB a = true) (ao : Option Addr) (ca : Nat) (w : World) (hx : Rd w ao (starL a)) :
    Calls Try.prog 23 #[.slice ao (starL a).length ca] w (Gave w (starL (starL a)) true) := by
  have R := (fRel h).star
  have := implOrderOf_any ao ca (starL a) w (fShort R) hx
  rw [show ofB (starL a) = true by unfold ofB; rw [R.ok, fTwice h, fOrd h]; rfl] at this
  exact this
theorem fOrderIn {a : List Int} (h : ofB a = true) (ao : Option Addr) (ca : Nat) (w : World) (hx : Rd w ao (starL a)) :
    Calls Try.prog 12 #[.slice ao (starL a).length ca] w fun e w' => e = .returned (.bool true) ∧ Below w.heap.size w w' := by
  have := implOrderIn_any ao ca (starL a) w (fShort (fRel h).star) hx
  rw [fOrd h] at this
  exact this
theorem fBelow {a : List Int} (h : ofB a = true) (ao bo : Option Addr) (ca cb : Nat) (w : World) (hx : Rd w ao a) (hy : Rd w bo (starL a)) :
    Calls Try.prog 25 #[.slice ao a.length ca, .slice bo (starL a).length cb] w fun e w' => e = .returned (.bool true) ∧ Below w.heap.size w w' := by
  have R := fRel h
  have T := R.star
  have hb : belowB a (starL a) = true := by
    rw [below_iff R T]
    intro i j hi hj e
    have := (below_iff R R.reach).1 (reach_has R) i j hi hj e
    unfold starL
    rw [hB_either R.reach (Rl.same R.one R.four) i j hi hj, this]
    rfl
  have := implRelBelow_any ao bo ca cb a (starL a) w (fShort R) (fShort T) hx hy
  rw [show twoIn a (starL a) = true by unfold twoIn; rw [R.ok, T.ok, T.len]; simp, hb] at this
  exact this
end Go.Proofs.Ytchbbflpckaddaa

namespace Go.Proofs.Ytchbbflpckaddaa
open Go.RowKit

theorem fnOrderOf_long (ao : Option Addr) (cap n : Nat) (w : World) (hm : n ≤ maxLen) (hl : ¬ n ≤ 1048576) :
    Calls Try.prog 5 #[.slice ao n cap] w fun e w' => e = .returned (.bool true) ∧ Below w.heap.size w w' := by
  unfold maxLen at hm
  go_enter Try.func5, Try.ntmps5
  go_wp2
  go_ret
  exact ⟨rfl, Below.refl _ _⟩

set_option maxHeartbeats 8000000 in
theorem fnOrderOf_walk (ao : Option Addr) (c : Nat) (bs : List Nat) (w : World) (hl : bs.length ≤ 1048576) (hb : RdB w ao bs) (hc : bs.length ≤ c) (hbA : bs ≠ [] → ∀ a, ao = some a → a.block < w.heap.size) :
    Calls Try.prog 5 #[.slice ao bs.length c] w fun e w' => e = .returned (.bool true) ∧ Below w.heap.size w w' := by
  have HD := Lib.hid (drawOrderOf_any ao c bs w hb hc hbA)
  clear hb hbA
  go_enter Try.func5, Try.ntmps5
  go_wp2_with fail
  refine HD.out.mono ?_
  rintro e w1 ⟨v, a, rfl, hrl, ho1, B1⟩
  obtain ⟨aa, ac, rfl, ra⟩ := row_rd ho1
  have hl1 : a.length ≤ 1048576 := by omega
  clear ho1 HD
  cases hp : ofB a with
  | false =>
    have hI := (fun w h => implOrderOf_any aa ac a w hl1 h)
    have hS := (fun w h => specOrderOf_any aa ac a w hl1 h)
    rw [hp] at hI hS
    have HC := Lib.hid (And.intro hI hS)
    clear hI hS hp
    go_wp2_with fail
    refine (HC.out.1 _ ra).mono ?_
    rintro e w2 ⟨v, rfl, ho, b2⟩
    obtain ⟨oa, oc, rfl, ro⟩ := row_rd (xs := ifR false (starL a)) ho
    have B2 := B1.trans (b2.mono B1.size)
    have ra2 := ra.below b2
    clear ho b2 B1 ra
    go_wp2_with fail
    refine (HC.out.2 _ ra2).mono ?_
    rintro e w3 ⟨v, rfl, ho, b3⟩
    obtain ⟨wa, wc, rfl, rw3⟩ := row_rd (xs := ifR false (starL a)) ho
    have B3 := B2.trans (b3.mono B2.size)
    have ro3 := ro.below b3
    clear ho b3 B2 ro ra2
    go_wp2_with fail
    refine (sameInts_refl _ _ _ _ _ _ (by simp [ifR]) ro3 rw3).mono ?_
    rintro e w4 ⟨rfl, d4⟩
    go_wp2_with fail
    refine (sameInts_refl _ _ _ _ _ _ (by simp [ifR]) (d4.rd ro3) (d4.rd rw3)).mono ?_
    rintro e w5 ⟨rfl, d5⟩
    go_wp2
    go_ret
    exact ⟨rfl, B3.trans ((d4.trans d5).below _)⟩
  | true =>
    have hI := (fun w h => implOrderOf_any aa ac a w hl1 h)
    have hS := (fun w h => specOrderOf_any aa ac a w hl1 h)
    rw [hp] at hI hS
    rw [show ifR true (starL a) = starL a from rfl] at hI hS
    have K0 := fun ao ca w h => fOrderOf hp ao ca w h
    have Q0 := fun ao ca w h => fOrderIn hp ao ca w h
    have Q1 := fun ao bo ca cb w h h2 => fBelow hp ao bo ca cb w h h2
    have Q2 := fTwice hp
    have Lo : (starL a).length ≤ 1048576 := fShort (fRel hp).star
    have Lx : (starL (starL a)).length ≤ 1048576 := by rw [fTwice hp]; exact fShort (fRel hp).star
    obtain ⟨lo, Eo⟩ : ∃ l, starL a = l := ⟨_, rfl⟩
    try rw [Eo] at hI
    try rw [Eo] at hS
    try rw [Eo] at K0
    try rw [Eo] at Q0
    try rw [Eo] at Q1
    try rw [Eo] at Q2
    try rw [Eo] at Lo
    try rw [Eo] at Lx
    obtain ⟨lx, Ex⟩ : ∃ l, starL lo = l := ⟨_, rfl⟩
    try rw [Ex] at hI
    try rw [Ex] at hS
    try rw [Ex] at K0
    try rw [Ex] at Q0
    try rw [Ex] at Q1
    try rw [Ex] at Q2
    try rw [Ex] at Lo
    try rw [Ex] at Lx
    have HhI := Lib.hid hI
    have HhS := Lib.hid hS
    have HK0 := Lib.hid K0
    have HQ0 := Lib.hid Q0
    have HQ1 := Lib.hid Q1
    have HQ2 := Lib.hid Q2
    clear hI hS K0 Q0 Q1 Q2 hp  Eo Ex
    go_wp2_with fail
    refine (HhI.out _ ra).mono ?_
    rintro e w2 ⟨v, rfl, ho, b2⟩
    obtain ⟨oa, oc, rfl, ro_2⟩ := row_rd ho
    have B2 := B1.trans (b2.mono B1.size)
    have ra_2 := ra.below b2
    clear ho b2 B1 ra
    go_wp2_with fail
    refine (HhS.out _ ra_2).mono ?_
    rintro e w3 ⟨v, rfl, ho, b3⟩
    obtain ⟨wa, wc, rfl, rw_3⟩ := row_rd ho
    have B3 := B2.trans (b3.mono B2.size)
    have ra_3 := ra_2.below b3
    have ro_3 := ro_2.below b3
    clear ho b3 B2 ra_2 ro_2
    go_wp2_with fail
    refine (sameInts_refl oa wa oc wc _ _ Lo ro_3 rw_3).mono ?_
    rintro e w4 ⟨rfl, d4⟩
    have B4 := B3.trans (d4.below _)
    have ra_4 := d4.rd ra_3
    have ro_4 := d4.rd ro_3
    have rw_4 := d4.rd rw_3
    clear d4 B3 ra_3 ro_3 rw_3
    go_wp2_with fail
    refine (HK0.out oa oc _ ro_4).mono ?_
    rintro e w5 ⟨v, rfl, ho, b5⟩
    obtain ⟨xa, xc, rfl, rx_5⟩ := row_rd ho
    have B5 := B4.trans (b5.mono B4.size)
    have ra_5 := ra_4.below b5
    have ro_5 := ro_4.below b5
    have rw_5 := rw_4.below b5
    clear ho b5 B4 ra_4 ro_4 rw_4
    go_wp2_with fail
    refine (HQ0.out oa oc _ ro_5).mono ?_
    rintro e w6 ⟨rfl, b6⟩
    have B6 := B5.trans (b6.mono B5.size)
    have ra_6 := ra_5.below b6
    have ro_6 := ro_5.below b6
    have rw_6 := rw_5.below b6
    have rx_6 := rx_5.below b6
    clear b6 B5 ra_5 ro_5 rw_5 rx_5
    go_wp2_with fail
    refine (HQ1.out aa oa ac oc _ ra_6 ro_6).mono ?_
    rintro e w7 ⟨rfl, b7⟩
    have B7 := B6.trans (b7.mono B6.size)
    have ra_7 := ra_6.below b7
    have ro_7 := ro_6.below b7
    have rw_7 := rw_6.below b7
    have rx_7 := rx_6.below b7
    clear b7 B6 ra_6 ro_6 rw_6 rx_6
    go_wp2_with fail
    refine (sameInts_eqF xa oa xc oc _ _ _ HQ2.out (by have := HQ2.out; have := Lx; first | assumption | omega) rx_7 ro_7).mono ?_
    rintro e w8 ⟨rfl, d8⟩
    have B8 := B7.trans (d8.below _)
    have ra_8 := d8.rd ra_7
    have ro_8 := d8.rd ro_7
    have rw_8 := d8.rd rw_7
    have rx_8 := d8.rd rx_7
    clear d8 B7 ra_7 ro_7 rw_7 rx_7
    go_wp2
    go_ret
    exact ⟨rfl, B8⟩
end Go.Proofs.Ytchbbflpckaddaa
