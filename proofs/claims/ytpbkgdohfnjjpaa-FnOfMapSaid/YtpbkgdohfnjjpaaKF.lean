/-
  Draws of laws on maps: lists of points, and relations that often are maps.
-/
import Derived.Test.YtpbkgdohfnjjpaaDI
import Derived.Deep.RegionHeld
namespace Go.Proofs.Ytpbkgdohfnjjpaa
open Go.RowKit

theorem drS_here {w wd : World} {R : Nat} {ao : Option Addr} {bs : List Nat} {c p : Nat} (S : DrS w wd R ao bs c p) : DrS wd wd R ao bs c p :=
  ⟨S.rd, Below.refl _ _, Nat.le_refl _, fun _ _ _ => rfl⟩
set_option maxHeartbeats 8000000 in
theorem drawKindMap_any (ao : Option Addr) (c : Nat) (bs : List Nat) (w : World) (hb : RdB w ao bs) (hc : bs.length ≤ c) (hbA : bs ≠ [] → ∀ a, ao = some a → a.block < w.heap.size) :
    Calls Try.prog 32 #[.slice ao bs.length c] w (Drew w) := by
  have HB := Lib.hid (And.intro hb hbA)
  obtain ⟨i0, hi, hz0, hz1, hz2⟩ := info_parts Try.info3
  clear hb hbA
  go_enter Try.func32, Try.ntmps32
  go_wp2_with fail
  refine (open_any ao c bs w hc).mono ?_
  rintro e w1 ⟨bs', hbs, rfl, hr, hB⟩
  have hl : bs'.length ≤ 2000 := by rw [hbs, List.length_take]; omega
  have hA : bs' ≠ [] → ∀ a, ao = some a → a.block < w.heap.size := fun h => HB.out.2 (fun e => h (by rw [hbs, e]; rfl))
  have HA := Lib.hid hA
  clear hA
  have hb1 : RdB w1 ao bs' := by rw [hbs]; exact (HB.out.1.take 2000).below hB
  have S : DrS w1 w1 w.heap.size ao bs' c 0 := ⟨hr, Below.refl _ _, Nat.le_refl _, fun _ _ _ => rfl⟩
  have HC := Lib.hid (pick_step S hb1 HA.out hl (by omega) 4 4 rfl (by omega) (by omega))
  clear hr hbs
  go_wp2_with fail
  refine HC.out.mono ?_
  rintro e w2 ⟨k, hk, rfl, S2, hss, _, _⟩
  have hb2 := hb1.keep HA.out S2.bl S2.sz
  have hB2 : Below w.heap.size w w2 := hB.trans S2.bl
  have hRw : w.heap.size < w2.heap.size := (Array.getElem?_eq_some_iff.1 S2.rd).1
  have HP := Lib.hid (fun (wr : World) (p : Nat) (S : DrS w2 wr w.heap.size ao bs' c p) (hp : p ≤ 1048576) => pick_step S hb2 HA.out hl hp)
  have HR := Lib.hid (fun (wr : World) (p : Nat) (S : DrS w2 wr w.heap.size ao bs' c p) (hp : p ≤ 1000) => l91Rel_any (drS_here S) (hb2.keep HA.out S.bl S.sz) HA.out hl hp (1 + k) (1 + (k : Int)) (by omega) (by omega) (by omega))
  have HS := Lib.hid hB2
  have S3 : DrS w2 w2 w.heap.size ao bs' c 1 := drS_here S2
  have S4 := S3.step hRw (below_one w2 (.cells #[] 3))
  have ho1 := row_lit0 w2
  clear HC S S2 S3 hb1 hb2 hB hB2 hss
  go_wp2
  go_loopw [5, 6] (fun v i wr => ∃ (m q : Nat) (rs : List Int), m ≤ 1 + k ∧ i = .int .i64 m ∧ rs.length = m ∧ q ≤ 1 + m ∧ wr.ownsRow w2.heap.size 3 1 v m (rs.map (Value.int .i64)) ∧ DrS w2 wr w.heap.size ao bs' c q)
    (fun _ i _ => 1 + k - (intOf i).toNat)
  case atStart => exact ⟨0, 1, [], Nat.zero_le _, rfl, rfl, by omega, ho1, S4⟩
  case round =>
    clear ho1 S4
    obtain ⟨m, q, rs, hm, rfl, hrl, hq, ho, S⟩ := hrel
    by_cases hlt : m < 1 + k
    · have hi1 : ((m : Nat) : Int) < 1 + (k : Int) := by omega
      have HA1 := Lib.hid (HP.out wr q S (by omega) (1 + k) (1 + (k : Int)) (by omega) (by omega) (by omega))
      have HO := Lib.hid ho
      clear S ho
      go_wp2_with fail
      refine HA1.out.mono ?_
      rintro e wc ⟨x, hx, rfl, S, hs2, hown, _⟩
      have ho := hown _ _ _ _ hRw HO.out
      clear hown HA1 HO hs2
      go_wp2_with (at_builtin; refine wpList_append_own _ rfl (.tmp 18) (.tmp 23) 23 rfl w2.heap.size 3 i0 (.int .i64 0) 1 8 Try.underlying23 hi hz0 hz1 hz2 rfl (by decide) _ _ _ rfl (ho.alloc _) ⟨wc.heap.size, 0, none⟩ 1 1 [_] rfl rfl (cell_one_new _ _ _) (by simp [Value.oneCell']) (by unfold maxLen; omega) (by omega) (by have := S.sz; simp; omega) ?_)
      intro v' w5 hown' hgrow _
      have hb' := own_step' ho (Below.refl _ _) S.sz _ hgrow
      have S' := S.step hRw hb'
      rw [map_snoc] at hown'
      clear ho S hgrow hb'
      go_wp2
      go_roundw
      case rel => exact ⟨m + 1, q + 1, rs ++ [_], by omega, by go_num, by rw [List.length_append, hrl]; rfl, by omega, hown', S'⟩
      case measure => simp [intOf]; omega
    · obtain rfl : m = 1 + k := by omega
      have HA1 := Lib.hid (HP.out wr q S (by omega) 4 4 rfl (by omega) (by omega))
      have HO := Lib.hid (And.intro hrl ho)
      clear S ho hrl
      go_wp2_with fail
      refine HA1.out.mono ?_
      rintro e wc ⟨z, hz, rfl, S, hs2, hown, _⟩
      have ho := hown _ _ _ _ hRw HO.out.2
      by_cases hz0' : z = 0
      · subst hz0'
        have HE := Lib.hid (HR.out wc (q + 1) S (by omega))
        have HSE := Lib.hid S
        clear hown HA1 ho S
        go_wp2_with fail
        refine HE.out.mono ?_
        rintro e wf ⟨v', rs', q', rfl, hl', ho', hq', T⟩
        have HT := Lib.hid (And.intro hl' (And.intro ho' T))
        clear hl' ho' hq' T HE
        go_wp2
        go_ret
        have hb9 := HS.out.trans HSE.out.bl
        exact ⟨v', rs', rfl, by have := HT.out.1; omega, by rw [HT.out.1]; exact own_mono HT.out.2.1 hb9.size, hb9.trans HT.out.2.2.bl⟩
      · have e0 : (((z : Nat) : Int) == 0) = false := beq_eq_false_iff_ne.2 (by omega)
        have HT := Lib.hid (And.intro ho S)
        clear hown HA1 ho S
        go_wp2
        go_ret
        exact ⟨_, rs, rfl, by have := HO.out.1; omega, by rw [HO.out.1]; exact own_mono HT.out.1 HS.out.size, HS.out.trans HT.out.2.bl⟩

/-- what a draw gives: a list of its own, of at most 5 numbers -/
def Drew5 (w : World) (e : Ending) (w' : World) : Prop :=
  ∃ (v : Value) (rs : List Int), e = .returned v ∧ rs.length ≤ 5 ∧ w'.ownsRow w.heap.size 3 1 v rs.length (rs.map (Value.int .i64)) ∧ Below w.heap.size w w'
set_option maxRecDepth 20000 in
set_option maxHeartbeats 8000000 in
theorem drawKindOfMap_any (ao : Option Addr) (c : Nat) (bs : List Nat) (w : World) (hb : RdB w ao bs) (hc : bs.length ≤ c) (hbA : bs ≠ [] → ∀ a, ao = some a → a.block < w.heap.size) :
    Calls Try.prog 36 #[.slice ao bs.length c] w (Drew5 w) := by
  have HB := Lib.hid (And.intro hb hbA)
  obtain ⟨i0, hi, hz0, hz1, hz2⟩ := info_parts Try.info3
  clear hb hbA
  go_enter Try.func36, Try.ntmps36
  go_wp2_with fail
  refine (open_any ao c bs w hc).mono ?_
  rintro e w1 ⟨bs', hbs, rfl, hr, hB⟩
  have hl : bs'.length ≤ 2000 := by rw [hbs, List.length_take]; omega
  have hA : bs' ≠ [] → ∀ a, ao = some a → a.block < w.heap.size := fun h => HB.out.2 (fun e => h (by rw [hbs, e]; rfl))
  have HA := Lib.hid hA
  clear hA
  have hb1 : RdB w1 ao bs' := by rw [hbs]; exact (HB.out.1.take 2000).below hB
  have S : DrS w1 w1 w.heap.size ao bs' c 0 := ⟨hr, Below.refl _ _, Nat.le_refl _, fun _ _ _ => rfl⟩
  have HC := Lib.hid (pick_step S hb1 HA.out hl (by omega) 4 4 rfl (by omega) (by omega))
  clear hr hbs S
  go_wp2_with fail
  refine HC.out.mono ?_
  rintro e w2 ⟨k, hk, rfl, S2, hss, _, _⟩
  have HD := Lib.hid (pick_step S2 hb1 HA.out hl (by omega) 24 24 rfl (by omega) (by omega))
  clear HC S2 hss
  go_wp2_with fail
  refine HD.out.mono ?_
  rintro e w3 ⟨j, hj, rfl, S3, hss, _, _⟩
  have hb3 := hb1.keep HA.out S3.bl S3.sz
  have hB3 : Below w.heap.size w w3 := hB.trans S3.bl
  have hRw : w.heap.size < w3.heap.size := (Array.getElem?_eq_some_iff.1 S3.rd).1
  have HP := Lib.hid (fun (wr : World) (p : Nat) (S : DrS w3 wr w.heap.size ao bs' c p) (hp : p ≤ 1048576) => pick_step S hb3 HA.out hl hp)
  have HS := Lib.hid hB3
  have hj1 : j / 23 ≤ 1 := by omega
  have S4 := (drS_here S3).step hRw (below_one w3 (.cells #[] 3))
  have ho1 := row_lit0 w3
  clear HD S3 hb1 hb3 hB hB3 hss
  go_wp2
  go_loopw [5, 6] (fun v i wr => ∃ (m q : Nat) (rs : List Int), m ≤ 1 + k + j / 23 ∧ i = .int .i64 m ∧ rs.length = m ∧ q ≤ 2 + 2 * m ∧ wr.ownsRow w3.heap.size 3 1 v m (rs.map (Value.int .i64)) ∧ DrS w3 wr w.heap.size ao bs' c q)
    (fun _ i _ => 1 + k + j / 23 - (intOf i).toNat)
  case atStart => exact ⟨0, _, [], Nat.zero_le _, rfl, rfl, by omega, ho1, S4⟩
  case round =>
    clear ho1 S4
    obtain ⟨m, q, rs, hm, rfl, hrl, hq, ho, S⟩ := hrel
    by_cases hlt : m < 1 + k + j / 23
    · have hi1 : ((m : Nat) : Int) < 1 + (k : Int) + (j : Int) / 23 := by omega
      have HA1 := Lib.hid (HP.out wr q S (by omega) 40 40 rfl (by omega) (by omega))
      have HO := Lib.hid ho
      clear S ho
      go_wp2_with fail
      refine HA1.out.mono ?_
      rintro e wa ⟨z, hz, rfl, Sa, hsa, hown, _⟩
      have ho := hown _ _ _ _ hRw HO.out
      have hzz : z / 39 ≤ 1 := by omega
      have HA2 := Lib.hid (HP.out wa (q + 1) Sa (by omega) (1 + k + j / 23 + z / 39) (1 + (k : Int) + (j : Int) / 23 + (z : Int) / 39) (by omega) (by omega) (by omega))
      have HO2 := Lib.hid ho
      clear Sa ho hown HA1 HO hsa
      go_wp2_with fail
      refine HA2.out.mono ?_
      rintro e wc ⟨x, hx, rfl, S, hs2, hown, _⟩
      have ho := hown _ _ _ _ hRw HO2.out
      clear hown HA2 HO2 hs2
      go_wp2_with (at_builtin; refine wpList_append_own _ rfl (.tmp 22) (.tmp 30) 23 rfl w3.heap.size 3 i0 (.int .i64 0) 1 8 Try.underlying23 hi hz0 hz1 hz2 rfl (by decide) _ _ _ rfl (ho.alloc _) ⟨wc.heap.size, 0, none⟩ 1 1 [_] rfl rfl (cell_one_new _ _ _) (by simp [Value.oneCell']) (by unfold maxLen; omega) (by omega) (by have := S.sz; simp; omega) ?_)
      intro v' w5 hown' hgrow _
      have hb' := own_step' ho (Below.refl _ _) S.sz _ hgrow
      have S' := S.step hRw hb'
      rw [map_snoc] at hown'
      clear ho S hgrow hb'
      go_wp2
      go_roundw
      case rel => exact ⟨m + 1, q + 1 + 1, rs ++ [_], by omega, by go_num, by rw [List.length_append, hrl]; rfl, by omega, hown', S'⟩
      case measure => simp [intOf]; omega
    · obtain rfl : m = 1 + k + j / 23 := by omega
      have HT := Lib.hid (And.intro hrl (And.intro ho S))
      have hi1 : ¬ (((1 + k + j / 23 : Nat)) : Int) < 1 + (k : Int) + (j : Int) / 23 := by omega
      clear ho S hrl
      go_wp2
      go_ret
      exact ⟨_, rs, rfl, by have := HT.out.1; omega, by rw [HT.out.1]; exact own_mono HT.out.2.1 HS.out.size, HS.out.trans HT.out.2.2.bl⟩
end Go.Proofs.Ytpbkgdohfnjjpaa
