/-
  The draw of a test and two programs: DrawProgIf; for whatever bytes.
-/
import Derived.Test.YtcdiicckngndcabPX
import Derived.Test.YtcdiicckngndcabDI
namespace Go.Proofs.Ytcdiicckngndcab
open Go.RowKit

/-- what a draw gives: a number, and two lists of its own of at most 5 numbers -/
def DrewV (w : World) (e : Ending) (w' : World) : Prop :=
  ∃ (v u : Value) (rs ss : List Int) (z : Int), e = .returned (.tuple #[.int .i64 z, v, u]) ∧ rs.length ≤ 5 ∧ ss.length ≤ 5 ∧ w'.ownsRow w.heap.size 3 1 v rs.length (rs.map (Value.int .i64)) ∧ w'.ownsRow w.heap.size 3 1 u ss.length (ss.map (Value.int .i64)) ∧ Below w.heap.size w w'
theorem wrapMore5 (n j : Nat) (h : n ≤ 5) (hj : j < 24) : IntKind.i64.wrap (IntKind.i64.wrap (2 ^ n) + IntKind.i64.wrap ((j : Int) / 23)) = ((2 ^ n + j / 23 : Nat) : Int) := by
  have e : (j : Int) / 23 = ((j / 23 : Nat) : Int) := by omega
  rw [e]
  have hj2 : j / 23 = 0 ∨ j / 23 = 1 := by omega
  rcases hj2 with h | h <;> rw [h] <;> (rcases (by omega : n = 0 ∨ n = 1 ∨ n = 2 ∨ n = 3 ∨ n = 4 ∨ n = 5) with rfl | rfl | rfl | rfl | rfl | rfl <;> decide +kernel)

set_option maxRecDepth 20000 in
set_option maxHeartbeats 4000000 in
theorem drawProgIf_any (ao : Option Addr) (c : Nat) (bs : List Nat) (w : World) (hb : RdB w ao bs) (hc : bs.length ≤ c) (hbA : bs ≠ [] → ∀ a, ao = some a → a.block < w.heap.size) :
    Calls Try.prog 25 #[.slice ao bs.length c] w (DrewV w) := by
  have HB := Lib.hid (And.intro hb hbA)
  have HD := Lib.hid (l91Two_any ao c bs w hb hc hbA)
  clear hb hbA
  go_enter Try.func25, Try.ntmps25
  go_wp2_with fail
  refine HD.out.mono ?_
  rintro e w3 ⟨v, u, rs, ss, rfl, hrl, hsl, ho, hu, hB⟩
  obtain ⟨aa, ac, rfl, _⟩ := row_rd ho
  have HO := Lib.hid (And.intro hsl (And.intro ho (And.intro hu hB)))
  clear ho hu hB hsl HD
  go_wp2_with fail
  refine (open_any ao c bs w3 hc).mono ?_
  rintro e w4 ⟨bs', hbs, rfl, hr, hB4⟩
  have hl : bs'.length ≤ 2000 := by rw [hbs, List.length_take]; omega
  have hA : bs' ≠ [] → ∀ a, ao = some a → a.block < w3.heap.size := fun h a e => Nat.lt_of_lt_of_le (HB.out.2 (fun e => h (by rw [hbs, e]; rfl)) a e) HO.out.2.2.2.size
  have hb4 : RdB w4 ao bs' := by rw [hbs]; exact ((HB.out.1.below HO.out.2.2.2).take 2000).below hB4
  have c1 := hr.cell1
  have f1 := hr.free 1
  have r5 := hr.at61
  have B5 : Below w3.heap.size w3 (w4.setCell ⟨w3.heap.size, 1, none⟩ (.int .i64 61)) := hB4.setCell (p := ⟨w3.heap.size, 1, none⟩) (Nat.le_refl _) _
  have hb5 : RdB (w4.setCell ⟨w3.heap.size, 1, none⟩ (.int .i64 61)) ao bs' := hb4.keep hA ((Below.refl _ _).setCell (p := ⟨w3.heap.size, 1, none⟩) (Nat.le_refl _) _) (by simp)
  clear hbs hr hB4 hb4
  go_wp2
  obtain ⟨w5, hw5⟩ : ∃ w5, w4.setCell ⟨w3.heap.size, 1, none⟩ (.int .i64 61) = w5 := ⟨_, rfl⟩
  rw [hw5] at r5 B5 hb5 ⊢
  have HP := Lib.hid (fun (wr : World) (p : Nat) (S : DrS w5 wr w3.heap.size ao bs' c p) (hp : p ≤ 1048576) => pick_step S hb5 hA hl hp)
  have S5 : DrS w5 w5 w3.heap.size ao bs' c 61 := ⟨r5, Below.refl _ _, Nat.le_refl _, fun _ _ _ => rfl⟩
  have S := S5.dn (Dn.drew w5)
  have hpw := fun (j : Nat) (hj : j < 24) => wrapMore5 rs.length j (by omega) hj
  have hp32 := pow_le32 rs.length (by omega)
  have H1 := Lib.hid (HP.out w5.drew 61 S (by omega) 24 24 rfl (by omega) (by omega))
  have H2 := Lib.hid (fun (wa : World) (j : Nat) (hj : j < 24) (Sa : DrS w5 wa w3.heap.size ao bs' c 62) => HP.out wa 62 Sa (by omega) (2 ^ rs.length + j / 23) (IntKind.i64.wrap (IntKind.i64.wrap (2 ^ rs.length) + IntKind.i64.wrap ((j : Int) / 23))) (hpw j hj) (by omega) (by omega))
  have HE := Lib.hid (fun (wX : World) (p : Nat) (S : DrS w5 wX w3.heap.size ao bs' c p) => (And.intro (keepU HO.out.2.1 (B5.trans S.bl)) (And.intro (keepU HO.out.2.2.1 (B5.trans S.bl)) (HO.out.2.2.2.trans ((B5.trans S.bl).mono HO.out.2.2.2.size)))))
  clear hw5 c1 f1 r5 hb5 hA S5 S hpw hp32 B5 HP
  go_region_held_law (fun _ => True) (trivial) (first
    | (go_at_call 63; (with_reducible refine H1.out.mono ?_); rintro e wa ⟨j, hj, rfl, Sa, _, _, _⟩)
    | (go_at_call 63; (with_reducible refine (H2.out wa j hj Sa).mono ?_); rintro e wb ⟨y, hy, rfl, Sb, _, _, _⟩))
  all_goals
    have HT := Lib.hid (HE.out _ _ Sb)
    clear Sa Sb
    go_wp2
    go_ret3
    exact ⟨_, _, rs, ss, _, rfl, hrl, HO.out.1, HT.out.1, HT.out.2.1, HT.out.2.2⟩
end Go.Proofs.Ytcdiicckngndcab
