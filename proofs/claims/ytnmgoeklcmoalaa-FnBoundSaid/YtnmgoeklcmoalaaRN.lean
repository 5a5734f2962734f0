/-
  The draw of an order and a set: DrawOrderBound, whose second reader is set to a place.
-/
import Derived.Test.YtnmgoeklcmoalaaRD
import Derived.Test.YtnmgoeklcmoalaaGD
import Derived.Test.YtnmgoeklcmoalaaOI
namespace Go.Proofs.Ytnmgoeklcmoalaa
open Go.RowKit

set_option maxHeartbeats 4000000 in
theorem drawOrderBound_any (ao : Option Addr) (c : Nat) (bs : List Nat) (w : World) (hb : RdB w ao bs) (hc : bs.length ≤ c) (hbA : bs ≠ [] → ∀ a, ao = some a → a.block < w.heap.size) :
    Calls Try.prog 19 #[.slice ao bs.length c] w (DrewI w) := by
  have HB := Lib.hid (And.intro hb hbA)
  have HD := Lib.hid (l92One_any ao c bs w hb hc hbA)
  clear hb hbA
  go_enter Try.func19, Try.ntmps19
  go_wp2_with fail
  refine HD.out.mono ?_
  rintro e w3 ⟨v, rs, rfl, hrl, ho, hB⟩
  obtain ⟨aa, ac, rfl, _⟩ := row_rd ho
  have HO := Lib.hid (And.intro hrl (And.intro ho hB))
  clear hrl ho hB HD
  go_wp2_with fail
  refine (open_any ao c bs w3 hc).mono ?_
  rintro e w4 ⟨bs', hbs, rfl, hr, hB4⟩
  have hl : bs'.length ≤ 2000 := by rw [hbs, List.length_take]; omega
  have hA : bs' ≠ [] → ∀ a, ao = some a → a.block < w3.heap.size := fun h a e => Nat.lt_of_lt_of_le (HB.out.2 (fun e => h (by rw [hbs, e]; rfl)) a e) HO.out.2.2.size
  have hb4 : RdB w4 ao bs' := by rw [hbs]; exact ((HB.out.1.below HO.out.2.2).take 2000).below hB4
  have c1 := hr.cell1
  have f1 := hr.free 1
  have r5 := hr.at61
  have B5 : Below w3.heap.size w3 (w4.setCell ⟨w3.heap.size, 1, none⟩ (.int .i64 61)) := hB4.setCell (p := ⟨w3.heap.size, 1, none⟩) (Nat.le_refl _) _
  have hb5 : RdB (w4.setCell ⟨w3.heap.size, 1, none⟩ (.int .i64 61)) ao bs' := hb4.keep hA ((Below.refl _ _).setCell (p := ⟨w3.heap.size, 1, none⟩) (Nat.le_refl _) _) (by simp)
  clear hbs hr hB4 hb4
  go_wp2_with fail
  obtain ⟨w5, hw5⟩ : ∃ w5, w4.setCell ⟨w3.heap.size, 1, none⟩ (.int .i64 61) = w5 := ⟨_, rfl⟩
  rw [hw5] at r5 B5 hb5 ⊢
  have HP := Lib.hid (fun (wr : World) (p : Nat) (S : DrS w5 wr w3.heap.size ao bs' c p) (hp : p ≤ 1048576) => pick_step S hb5 hA hl hp)
  obtain ⟨n, hn⟩ : ∃ n, rs.length = n := ⟨_, rfl⟩
  have hn4 : n ≤ 4 := by have := HO.out.1; omega
  have h16 : 2 ^ n ≤ 16 := by rcases (by omega : n = 0 ∨ n = 1 ∨ n = 2 ∨ n = 3 ∨ n = 4) with rfl | rfl | rfl | rfl | rfl <;> decide
  have h0 : 1 ≤ 2 ^ n := Nat.one_le_two_pow
  have hpw := fun (j : Nat) (hj : j < 24) => wrapMore n j hn4 hj
  have H1 := Lib.hid (HP.out w5.drew 61 ⟨r5, (Below.refl _ _).drew, Nat.le_refl _, fun _ _ _ => rfl⟩ (by omega) 24 24 rfl (by omega) (by omega))
  have H2 := Lib.hid (fun (wa : World) (j : Nat) (hj : j < 24) (Sa : DrS w5 wa w3.heap.size ao bs' c (61 + 1)) => HP.out wa (61 + 1) Sa (by omega) (2 ^ n + j / 23) (IntKind.i64.wrap (IntKind.i64.wrap (2 ^ n) + IntKind.i64.wrap ((j : Int) / 23))) (hpw j hj) (by omega) (by omega))
  have H3 := Lib.hid (fun (wb : World) (Sb : DrS w5 wb w3.heap.size ao bs' c (61 + 1 + 1)) => HP.out wb (61 + 1 + 1) Sb (by omega) 24 24 rfl (by omega) (by omega))
  have HN := Lib.hid hn
  rw [hn]
  clear hw5 c1 f1 r5 hb5 hA hn hpw
  go_region_held_law (fun _ => True) (trivial) (first
    | (go_at_call 53; (with_reducible refine H1.out.mono ?_); rintro e wa ⟨j, hj, rfl, Sa, hsa, _, _⟩)
    | (go_at_call 53; (with_reducible refine (H2.out wa j hj Sa).mono ?_); rintro e wb ⟨y, hy, rfl, Sb, hsb, _, _⟩)
    | (go_at_call 53; (with_reducible refine (H3.out wb Sb).mono ?_); rintro e wd ⟨x, hx, rfl, Sd, hsd, _, _⟩))
  all_goals
    have HT := Lib.hid (B5.trans Sd.bl)
    clear Sd Sa Sb B5
    go_wp2
    go_ret2
    have h := keepT HO.out.2.1 HT.out
    rw [HN.out] at h
    exact ⟨.slice aa n ac, rs, _, rfl, HO.out.1, by rw [HN.out]; exact h, HO.out.2.2.trans (HT.out.mono HO.out.2.2.size)⟩
end Go.Proofs.Ytnmgoeklcmoalaa
