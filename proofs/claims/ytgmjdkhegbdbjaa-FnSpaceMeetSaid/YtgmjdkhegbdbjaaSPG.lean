/-
  The draw of a relation and two sets of its space: DrawSpaceMeet.
-/
import Derived.Test.YtgmjdkhegbdbjaaSPE
import Derived.Test.YtgmjdkhegbdbjaaRD
import Derived.Deep.RegionHeld
namespace Go.Proofs.Ytgmjdkhegbdbjaa
open Go.RowKit

/-- what the draw gives: a list of its own, of at most 4 numbers, and two numbers -/
def DrewSM (w : World) (e : Ending) (w' : World) : Prop :=
  ∃ (v : Value) (rs : List Int) (x y : Int), e = .returned (.tuple #[v, .int .i64 x, .int .i64 y]) ∧ rs.length ≤ 4 ∧ w'.ownsRow w.heap.size 3 1 v rs.length (rs.map (Value.int .i64)) ∧ Below w.heap.size w w'
theorem evL_pos {xs : List Int} (h : relIn xs = true) : 1 ≤ (evL xs).length := by
  unfold evL
  rw [h]
  have hm : (0 : Int) ∈ spL xs := (mem_spL (Rl.of h) _).2 ⟨0, Nat.pos_of_ne_zero (by simp), (img_zero (Rl.of h)).symm⟩
  show 1 ≤ (spL xs).length
  cases h2 : spL xs with
  | nil => rw [h2] at hm; cases hm
  | cons a l => simp

set_option maxRecDepth 20000 in
set_option maxHeartbeats 8000000 in
theorem drawSpaceMeet_any (ao : Option Addr) (c : Nat) (bs : List Nat) (w : World) (hb : RdB w ao bs) (hc : bs.length ≤ c) (hbA : bs ≠ [] → ∀ a, ao = some a → a.block < w.heap.size) :
    Calls Try.prog 27 #[.slice ao bs.length c] w (DrewSM w) := by
  have HB := Lib.hid (And.intro hb hbA)
  have HD := Lib.hid (l91Some_any ao c bs w hb hc hbA)
  clear hb hbA
  go_enter Try.func27, Try.ntmps27
  go_wp2_with fail
  refine HD.out.mono ?_
  rintro e w2 ⟨v, rs, rfl, hrl, ho, hB⟩
  obtain ⟨aa, ac, rfl, hR⟩ := row_rd ho
  have h1 := specSpaceOf_any aa ac rs w2 (by omega) hR
  have hlen := evL_len rs
  have hpos : relIn rs = true → 1 ≤ (evL rs).length := evL_pos
  rw [show ifR (relIn rs) (spL rs) = evL rs from rfl] at h1
  generalize evL rs = L at h1 hlen hpos
  generalize relIn rs = ok at h1 hpos
  have HO2 := Lib.hid (And.intro hrl (And.intro ho hB))
  have H1S := Lib.hid h1
  clear hrl ho hB HD hR h1
  go_wp2_with fail
  refine H1S.out.mono ?_
  rintro e w3 ⟨v, rfl, hoL, hBL⟩
  obtain ⟨al, cl, rfl, hLr⟩ := read_rd hoL
  have ho3 : rs.length ≤ 4 ∧ w3.ownsRow w.heap.size 3 1 (.slice aa rs.length ac) rs.length (rs.map (Value.int .i64)) ∧ Below w.heap.size w w3 :=
    ⟨HO2.out.1, own_keep HO2.out.2.1 hBL (fun k e => (HO2.out.2.1.lt k e).2), HO2.out.2.2.trans (hBL.mono HO2.out.2.2.size)⟩
  have HO := Lib.hid ho3
  have HL := Lib.hid hLr
  clear hoL hBL hLr H1S HO2 ho3
  go_wp2_with fail
  refine (open_any ao c bs w3 hc).mono ?_
  rintro e w4 ⟨bs', hbs, rfl, hr, hB4⟩
  have hl : bs'.length ≤ 2000 := by rw [hbs, List.length_take]; omega
  have hA : bs' ≠ [] → ∀ a, ao = some a → a.block < w3.heap.size := fun h a e => Nat.lt_of_lt_of_le (HB.out.2 (fun e => h (by rw [hbs, e]; rfl)) a e) HO.out.2.2.size
  have hb4 : RdB w4 ao bs' := by rw [hbs]; exact ((HB.out.1.below HO.out.2.2).take 2000).below hB4
  have c1 := hr.cell1
  have f1 := hr.free 1
  have r5 := hr.at61
  have B5 : Below w3.heap.size w3 (w4.setCell ⟨w3.heap.size, 1, none⟩ (.int .i64 61)) := hB4.setCell (p := ⟨w3.heap.size, 1, none⟩) (Nat.le_refl _) _
  have hb5 : RdB (w4.setCell ⟨w3.heap.size, 1, none⟩ (.int .i64 61)) ao bs' := hb4.keep hA ((Below.refl _ _).setCell (p := ⟨w3.heap.size, 1, none⟩) (Nat.le_refl _) _) (by simp)
  clear hbs hr hB4 hb4
  obtain ⟨n, hn⟩ : ∃ n, rs.length = n := ⟨_, rfl⟩
  have hn4 : n ≤ 4 := by have := HO.out.1; omega
  have h16 : 2 ^ n ≤ 16 := by rcases (by omega : n = 0 ∨ n = 1 ∨ n = 2 ∨ n = 3 ∨ n = 4) with rfl | rfl | rfl | rfl | rfl <;> decide
  have h0 : 1 ≤ 2 ^ n := Nat.one_le_two_pow
  have hpw := fun (j : Nat) (hj : j < 24) => wrapMore n j hn4 hj
  have hpw0 : IntKind.i64.wrap (2 ^ n) = ((2 ^ n : Nat) : Int) := by
    rcases (by omega : n = 0 ∨ n = 1 ∨ n = 2 ∨ n = 3 ∨ n = 4) with rfl | rfl | rfl | rfl | rfl <;> decide +kernel
  have HN := Lib.hid hn
  rw [hn]
  clear hn
  cases ok with
  | false =>
    have HW := Lib.hid (And.intro hpw hpw0)
    clear hpw hpw0
    go_wp2_with fail
    have hpw := HW.out.1
    have hpw0 := HW.out.2
    obtain ⟨w5, hw5⟩ : ∃ w5, w4.setCell ⟨w3.heap.size, 1, none⟩ (.int .i64 61) = w5 := ⟨_, rfl⟩
    rw [hw5] at r5 B5 hb5 ⊢
    have HP := Lib.hid (fun (wr : World) (p : Nat) (S : DrS w5 wr w3.heap.size ao bs' c p) (hp : p ≤ 1048576) => pick_step S hb5 hA hl hp)
    have H1 := Lib.hid (HP.out w5.drew 61 ⟨r5, (Below.refl _ _).drew, Nat.le_refl _, fun _ _ _ => rfl⟩ (by omega) (2 ^ n) (IntKind.i64.wrap (2 ^ n)) hpw0 h0 (by omega))
    have H2 := Lib.hid (fun (wa : World) (Sa : DrS w5 wa w3.heap.size ao bs' c (61 + 1)) => HP.out wa (61 + 1) Sa (by omega) 24 24 rfl (by omega) (by omega))
    have H3 := Lib.hid (fun (wb : World) (j : Nat) (hj : j < 24) (Sb : DrS w5 wb w3.heap.size ao bs' c (61 + 1 + 1)) => HP.out wb (61 + 1 + 1) Sb (by omega) (2 ^ n + j / 23) (IntKind.i64.wrap (IntKind.i64.wrap (2 ^ n) + IntKind.i64.wrap ((j : Int) / 23))) (hpw j hj) (by omega) (by omega))
    clear hpw hpw0 hw5 c1 f1 r5 hb5 hA
    go_region_held_law (fun _ => True) (trivial) (first
      | (go_at_call 51; (with_reducible refine H1.out.mono ?_); rintro e wa ⟨x, hx, rfl, Sa, hsa, _, _⟩)
      | (go_at_call 51; (with_reducible refine (H2.out wa Sa).mono ?_); rintro e wb ⟨j, hj, rfl, Sb, hsb, _, _⟩)
      | (go_at_call 51; (with_reducible refine (H3.out wb j hj Sb).mono ?_); rintro e wd ⟨y, hy, rfl, Sd, hsd, _, _⟩))
    all_goals
      have HT := Lib.hid (B5.trans Sd.bl)
      clear Sd Sa Sb B5
      go_wp2
      go_ret3
      have h := own_keep HO.out.2.1 HT.out (fun k e => (HO.out.2.1.lt k e).2)
      rw [HN.out] at h
      exact ⟨.slice aa n ac, rs, _, _, rfl, HO.out.1, by rw [HN.out]; exact h, HO.out.2.2.trans (HT.out.mono HO.out.2.2.size)⟩
  | true =>
    have hL1 := hpos rfl
    obtain ⟨b, off, _, hz1, rfl, _, hz2⟩ := HL.out.get 0 hL1
    have HW := Lib.hid (And.intro hpw hpw0)
    clear hpw hpw0 hz1 hz2
    go_wp2_with fail
    obtain ⟨w5, hw5⟩ : ∃ w5, w4.setCell ⟨w3.heap.size, 1, none⟩ (.int .i64 61) = w5 := ⟨_, rfl⟩
    rw [hw5] at r5 B5 hb5 ⊢
    have HP := Lib.hid (fun (wr : World) (p : Nat) (S : DrS w5 wr w3.heap.size ao bs' c p) (hp : p ≤ 1048576) => pick_step S hb5 hA hl hp)
    have HC := Lib.hid (HP.out w5 61 ⟨r5, Below.refl _ _, Nat.le_refl _, fun _ _ _ => rfl⟩ (by omega) 4 4 rfl (by omega) (by omega))
    clear hw5 c1 f1 r5 hb5 hA
    refine HC.out.mono ?_
    rintro e w6 ⟨k, hk, rfl, S6, hs6, _, _⟩
    clear HC
    by_cases hk0 : k = 0
    · subst hk0
      go_wp2_with fail
      have hpw := HW.out.1
      have hpw0 := HW.out.2
      have H1 := Lib.hid (HP.out w6.drew 62 ⟨S6.rd, S6.bl.drew, S6.sz, S6.oth⟩ (by omega) (2 ^ n) (IntKind.i64.wrap (2 ^ n)) hpw0 h0 (by omega))
      have H2 := Lib.hid (fun (wa : World) (Sa : DrS w5 wa w3.heap.size ao bs' c (62 + 1)) => HP.out wa (62 + 1) Sa (by omega) 24 24 rfl (by omega) (by omega))
      have H3 := Lib.hid (fun (wb : World) (j : Nat) (hj : j < 24) (Sb : DrS w5 wb w3.heap.size ao bs' c (62 + 1 + 1)) => HP.out wb (62 + 1 + 1) Sb (by omega) (2 ^ n + j / 23) (IntKind.i64.wrap (IntKind.i64.wrap (2 ^ n) + IntKind.i64.wrap ((j : Int) / 23))) (hpw j hj) (by omega) (by omega))
      clear hpw hpw0 S6 hs6
      go_region_held_law (fun _ => True) (trivial) (first
        | (go_at_call 51; (with_reducible refine H1.out.mono ?_); rintro e wa ⟨x, hx, rfl, Sa, hsa, _, _⟩)
        | (go_at_call 51; (with_reducible refine (H2.out wa Sa).mono ?_); rintro e wb ⟨j, hj, rfl, Sb, hsb, _, _⟩)
        | (go_at_call 51; (with_reducible refine (H3.out wb j hj Sb).mono ?_); rintro e wd ⟨y, hy, rfl, Sd, hsd, _, _⟩))
      all_goals
        have HT := Lib.hid (B5.trans Sd.bl)
        clear Sd Sa Sb B5
        go_wp2
        go_ret3
        have h := own_keep HO.out.2.1 HT.out (fun k e => (HO.out.2.1.lt k e).2)
        rw [HN.out] at h
        exact ⟨.slice aa n ac, rs, _, _, rfl, HO.out.1, by rw [HN.out]; exact h, HO.out.2.2.trans (HT.out.mono HO.out.2.2.size)⟩

    · have hk1 : (0 : Int) < (k : Int) := by omega
      have HC2 := Lib.hid (HP.out w6 62 S6 (by omega) L.length (L.length : Int) rfl hL1 (by omega))
      clear S6 hs6 hk0
      go_wp2_with fail
      refine HC2.out.mono ?_
      rintro e w7 ⟨i, hi, rfl, S7, hs7, _, _⟩
      clear HC2
      have ci := (HL.out.below (B5.trans S7.bl)).cell i hi
      have hi1 : ((i : Nat) : Int) < (L.length : Int) := by omega
      have H7 := Lib.hid (HP.out w7.drew 63 ⟨S7.rd, S7.bl.drew, S7.sz, S7.oth⟩ (by omega) L.length (L.length : Int) rfl hL1 (by omega))
      clear S7 hs7
      go_wp2_with fail
      clear ci
      go_region_with (
        (go_at_call 51; (with_reducible refine H7.out.mono ?_); rintro e wd ⟨j, hj, rfl, Sd, hsd, _, _⟩; have cj := (HL.out.below (B5.trans Sd.bl)).cell j hj; have hj1 : ((j : Nat) : Int) < (L.length : Int) := by omega))
      all_goals
        have HT := Lib.hid (B5.trans Sd.bl)
        clear Sd B5 cj
        go_wp2
        go_ret3
        have h := own_keep HO.out.2.1 HT.out (fun k e => (HO.out.2.1.lt k e).2)
        rw [HN.out] at h
        exact ⟨.slice aa n ac, rs, _, _, rfl, HO.out.1, by rw [HN.out]; exact h, HO.out.2.2.trans (HT.out.mono HO.out.2.2.size)⟩
end Go.Proofs.Ytgmjdkhegbdbjaa
