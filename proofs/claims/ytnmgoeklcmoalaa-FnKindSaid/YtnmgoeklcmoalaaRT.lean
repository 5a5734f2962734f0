/-
  The draw of a relation and kinds that it often is of: DrawKindIn.
-/
import Derived.Test.YtnmgoeklcmoalaaRM
import Derived.Test.YtnmgoeklcmoalaaHK
import Derived.Deep.RegionHeldLaw
namespace Go.Proofs.Ytnmgoeklcmoalaa
open Go.RowKit

theorem kindsOf_size (a : List Int) : (kindsOf a).size ≤ 10 := by
  unfold kindsOf
  split
  · rw [str_size]
    exact pick_len (fun i => kindB (byt risat i) a) 10
  · decide
set_option maxRecDepth 20000 in
set_option maxHeartbeats 4000000 in
theorem drawKindIn_any (ao : Option Addr) (c : Nat) (bs : List Nat) (w : World) (hb : RdB w ao bs) (hc : bs.length ≤ c) (hbA : bs ≠ [] → ∀ a, ao = some a → a.block < w.heap.size) :
    Calls Try.prog 39 #[.slice ao bs.length c] w (DrewS w) := by
  have HB := Lib.hid (And.intro hb hbA)
  have HD := Lib.hid (l91Some_any ao c bs w hb hc hbA)
  clear hb hbA
  go_enter Try.func39, Try.ntmps39
  go_wp2_with fail
  refine HD.out.mono ?_
  rintro e w3 ⟨v, rs, rfl, hrl, ho, hB⟩
  obtain ⟨aa, ac, rfl, ra⟩ := row_rd ho
  have hT := specKindAll_any aa ac rs w3 (by omega) ra
  have hks := kindsOf_size rs
  have HO := Lib.hid (And.intro hrl (And.intro ho hB))
  obtain ⟨ks, Ek⟩ : ∃ k, kindsOf rs = k := ⟨_, rfl⟩
  rw [Ek] at hT hks
  obtain ⟨ok, Eo⟩ : ∃ b, relIn rs = b := ⟨_, rfl⟩
  rw [Eo] at hT
  have HT := Lib.hid hT
  clear hrl ho hB HD hT Ek Eo ra
  go_wp2_with fail
  refine HT.out.mono ?_
  rintro e w4 ⟨rfl, hb4⟩
  have B4 : Below w.heap.size w w4 := HO.out.2.2.trans (hb4.mono HO.out.2.2.size)
  have HO2 := Lib.hid (And.intro HO.out.1 (And.intro (keepT HO.out.2.1 hb4) B4))
  have hb4' : RdB w4 ao bs := HB.out.1.below B4
  clear hb4 HT HO
  go_wp2_with fail
  refine (open_any ao c bs w4 hc).mono ?_
  rintro e w5 ⟨bs', hbs, rfl, hr, hB5⟩
  have hl : bs'.length ≤ 2000 := by rw [hbs, List.length_take]; omega
  have hA : bs' ≠ [] → ∀ a, ao = some a → a.block < w4.heap.size := fun h a e => Nat.lt_of_lt_of_le (HB.out.2 (fun e => h (by rw [hbs, e]; rfl)) a e) B4.size
  have hb5 : RdB w5 ao bs' := by rw [hbs]; exact (hb4'.take 2000).below hB5
  have c1 := hr.cell1
  have f1 := hr.free 1
  have r6 := hr.at61
  have B6 : Below w4.heap.size w4 (w5.setCell ⟨w4.heap.size, 1, none⟩ (.int .i64 61)) := hB5.setCell (p := ⟨w4.heap.size, 1, none⟩) (Nat.le_refl _) _
  have hb6 : RdB (w5.setCell ⟨w4.heap.size, 1, none⟩ (.int .i64 61)) ao bs' := hb5.keep hA ((Below.refl _ _).setCell (p := ⟨w4.heap.size, 1, none⟩) (Nat.le_refl _) _) (by simp)
  clear hbs hr hB5 hb5 hb4' B4
  obtain ⟨w6, hw6⟩ : ∃ w6, w5.setCell ⟨w4.heap.size, 1, none⟩ (.int .i64 61) = w6 := ⟨_, rfl⟩
  have HW := Lib.hid hw6
  rw [hw6] at r6 B6 hb6
  have HA := Lib.hid hA
  have HP := Lib.hid (fun (wr : World) (p : Nat) (S : DrS w6 wr w4.heap.size ao bs' c p) (hp : p ≤ 1048576) => pick_step S hb6 HA.out hl hp)
  have S6 : DrS w6 w6 w4.heap.size ao bs' c 61 := ⟨r6, Below.refl _ _, Nat.le_refl _, fun _ _ _ => rfl⟩
  have HR := Lib.hid (And.intro hb6 (And.intro S6 B6))
  clear hw6 r6 hb6 hA S6 B6
  cases ok with
  | false =>
    go_wp2_with fail
    rw [HW.out]
    clear c1 f1
    refine (l3Letters_any w6).mono ?_
    rintro e w7 ⟨rfl, rfl⟩
    have HK := Lib.hid (l91Kinds_any HR.out.2.1 HR.out.1 HA.out hl (by omega) risat (by decide) (by decide))
    go_wp2_with fail
    refine HK.out.mono ?_
    rintro e wd ⟨st2, q, rfl, hs2, Sd⟩
    have HT := Lib.hid (And.intro (HR.out.2.2.trans Sd.bl) hs2)
    clear Sd HK hs2
    go_wp2
    go_ret2
    exact ⟨_, rs, st2, rfl, HO2.out.1, HT.out.2, keepT HO2.out.2.1 HT.out.1, HO2.out.2.2.trans (HT.out.1.mono HO2.out.2.2.size)⟩
  | true =>
    have HC := Lib.hid (HP.out w6 61 HR.out.2.1 (by omega) 3 3 rfl (by omega) (by omega))
    go_wp2_with fail
    rw [HW.out]
    clear c1 f1
    refine HC.out.mono ?_
    rintro e wa ⟨z, hz, rfl, Sa, hsa, _, _⟩
    by_cases hz0 : (z : Int) > 0
    · have H1 := Lib.hid (HP.out wa.drew (61 + 1) ⟨Sa.rd, Sa.bl.drew, Sa.sz, Sa.oth⟩ (by omega) (ks.size + 1) (IntKind.i64.wrap ((ks.size : Int) + 1)) (by rw [wrap_of _ (by omega) (by omega)]; omega) (by omega) (by omega))
      clear Sa HC hsa
      go_wp2_with fail
      go_region_held_law (fun _ => True) (trivial) (first
        | (go_at_call 53; (with_reducible refine H1.out.mono ?_); rintro e wb ⟨y, hy, rfl, Sb, hsb, _, _⟩; have hy1 : (y : Int) ≤ (ks.size : Int) := by omega))
      all_goals
        have HT := Lib.hid (HR.out.2.2.trans Sb.bl)
        clear Sb
        go_wp2
        go_ret2
        exact ⟨_, rs, _, rfl, HO2.out.1, by simp [ByteArray.size_extract]; omega, keepT HO2.out.2.1 HT.out, HO2.out.2.2.trans (HT.out.mono HO2.out.2.2.size)⟩
    · have HK := Lib.hid (l91Kinds_any Sa.hereD (HR.out.1.keep HA.out Sa.bl Sa.sz) HA.out hl (by omega) risat (by decide) (by decide))
      have HSA := Lib.hid Sa
      clear Sa HC hsa
      go_wp2_with fail
      refine (l3Letters_any wa).mono ?_
      rintro e w7 ⟨rfl, rfl⟩
      go_wp2_with fail
      refine HK.out.mono ?_
      rintro e wd ⟨st2, q, rfl, hs2, Sd⟩
      have HT := Lib.hid (And.intro (HR.out.2.2.trans (HSA.out.bl.trans Sd.bl)) hs2)
      clear Sd HK hs2
      go_wp2
      go_ret2
      exact ⟨_, rs, st2, rfl, HO2.out.1, HT.out.2, keepT HO2.out.2.1 HT.out.1, HO2.out.2.2.trans (HT.out.1.mono HO2.out.2.2.size)⟩
end Go.Proofs.Ytnmgoeklcmoalaa
