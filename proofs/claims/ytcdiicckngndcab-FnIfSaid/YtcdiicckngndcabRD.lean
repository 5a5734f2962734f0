/-
  Draws with a relation and a set, a number or points: l91Set, DrawCompPower, DrawCompFar, and the draws made of l91Some and l91Set.
-/
import Derived.Test.YtcdiicckngndcabDF
import Derived.Deep.RegionHeldLaw
namespace Go.Proofs.Ytcdiicckngndcab
open Go.RowKit

/-- the reader's place, set -/
theorem RdrAt.at {w : World} {R : Nat} {ao : Option Addr} {n c p : Nat} (h : RdrAt w R ao n c p) (q : Nat) : RdrAt (w.setCell ⟨R, 1, none⟩ (.int .i64 (q : Nat))) R ao n c q := by
  unfold RdrAt
  have hlt : R < w.heap.size := (Array.getElem?_eq_some_iff.1 h).1
  have h2 : w.heap[R] = .cells #[.slice ao n c, .int .i64 p] 67 := (Array.getElem?_eq_some_iff.1 h).2
  simp [World.setCell, hlt, h2, Array.getElem_modify]
theorem RdrAt.at61 {w : World} {R : Nat} {ao : Option Addr} {n c p : Nat} (h : RdrAt w R ao n c p) : RdrAt (w.setCell ⟨R, 1, none⟩ (.int .i64 61)) R ao n c 61 := h.at 61
theorem DrS.hereD {w wd : World} {R : Nat} {ao : Option Addr} {bs : List Nat} {c p : Nat} (S : DrS w wd R ao bs c p) : DrS wd wd R ao bs c p :=
  ⟨S.rd, Below.refl _ _, Nat.le_refl _, fun _ _ _ => rfl⟩
theorem wrapMore (n j : Nat) (h4 : n ≤ 4) (hj : j < 24) : IntKind.i64.wrap (IntKind.i64.wrap (2 ^ n) + IntKind.i64.wrap ((j : Int) / 23)) = ((2 ^ n + j / 23 : Nat) : Int) := by
  have e : (j : Int) / 23 = ((j / 23 : Nat) : Int) := by omega
  rw [e]
  have hj2 : j / 23 = 0 ∨ j / 23 = 1 := by omega
  rcases hj2 with h | h <;> rw [h] <;> (rcases (by omega : n = 0 ∨ n = 1 ∨ n = 2 ∨ n = 3 ∨ n = 4) with rfl | rfl | rfl | rfl | rfl <;> decide +kernel)
/-- what a draw gives: a list of its own, of at most 4 numbers, and a number -/
def DrewI (w : World) (e : Ending) (w' : World) : Prop :=
  ∃ (v : Value) (rs : List Int) (z : Int), e = .returned (.tuple #[v, .int .i64 z]) ∧ rs.length ≤ 4 ∧ w'.ownsRow w.heap.size 3 1 v rs.length (rs.map (Value.int .i64)) ∧ Below w.heap.size w w'

set_option maxHeartbeats 4000000 in
theorem l91Set_any (ao : Option Addr) (c : Nat) (bs : List Nat) (w : World) (hb : RdB w ao bs) (hc : bs.length ≤ c) (hbA : bs ≠ [] → ∀ a, ao = some a → a.block < w.heap.size) :
    Calls Try.prog 42 #[.slice ao bs.length c] w (DrewI w) := by
  have HB := Lib.hid (And.intro hb hbA)
  clear hb hbA
  go_enter Try.func42, Try.ntmps42
  go_wp2_with fail
  refine (open_any ao c bs w hc).mono ?_
  rintro e w1 ⟨bs', hbs, rfl, hr, hB⟩
  have hl : bs'.length ≤ 2000 := by rw [hbs, List.length_take]; omega
  have hA : bs' ≠ [] → ∀ a, ao = some a → a.block < w.heap.size := fun h => HB.out.2 (fun e => h (by rw [hbs, e]; rfl))
  have HA := Lib.hid hA
  clear hA
  have hb1 : RdB w1 ao bs' := by rw [hbs]; exact (HB.out.1.take 2000).below hB
  have S : DrS w1 w1 w.heap.size ao bs' c 0 := ⟨hr, Below.refl _ _, Nat.le_refl _, fun _ _ _ => rfl⟩
  have HC := Lib.hid (pick_step S hb1 HA.out hl (by omega) 4 4 rfl (by omega) (by omega))
  clear hr hbs
  go_wp2_with fail
  refine HC.out.mono ?_
  rintro e w2 ⟨k, hk, rfl, S2, hss, _, _⟩
  have S3 : DrS w2 w2 w.heap.size ao bs' c 1 := S2.hereD
  have hb2 := hb1.keep HA.out S2.bl S2.sz
  have HD := Lib.hid (l91Rel_any S3 hb2 HA.out hl (by omega) (1 + k) (1 + (k : Int)) (by omega) (by omega) (by omega))
  have hB2 : Below w.heap.size w w2 := hB.trans S2.bl
  have hsz2 := hB2.size
  have hRlt : w.heap.size < w2.heap.size := (Array.getElem?_eq_some_iff.1 S2.rd).1
  have HS := Lib.hid (And.intro hB2 hb2)
  clear HC S S2 S3 hb1 hb2 hB hB2 hss
  go_wp2_with fail
  refine HD.out.mono ?_
  rintro e w3 ⟨v, rs, q, rfl, hrl, ho, hq, S4⟩
  have hb3 := HS.out.2.keep HA.out S4.bl S4.sz
  have HP := Lib.hid (fun (wr : World) (p : Nat) (S : DrS w3 wr w.heap.size ao bs' c p) (hp : p ≤ 1048576) => pick_step S hb3 HA.out hl hp)
  have B3 := HS.out.1.trans S4.bl
  have hRw3 : w.heap.size < w3.heap.size := (Array.getElem?_eq_some_iff.1 S4.rd).1
  obtain ⟨n, hn⟩ : ∃ n : Nat, 1 + (k : Int) = (n : Int) := ⟨1 + k, by omega⟩
  have hn1 : 1 ≤ n := by omega
  have hn4 : n ≤ 4 := by omega
  have hrn : rs.length = n := by omega
  have h16 : 2 ^ n ≤ 16 := by rcases (by omega : n = 1 ∨ n = 2 ∨ n = 3 ∨ n = 4) with rfl | rfl | rfl | rfl <;> decide
  have h0 : 1 ≤ 2 ^ n := Nat.one_le_two_pow
  have hpw := fun (j : Nat) (hj : j < 24) => wrapMore n j hn4 hj
  have H1 := Lib.hid (HP.out w3.drew q ⟨S4.rd, (Below.refl _ _).drew, Nat.le_refl _, fun _ _ _ => rfl⟩ (by omega) 24 24 rfl (by omega) (by omega))
  have H2 := Lib.hid (fun (wa : World) (j : Nat) (hj : j < 24) (Sa : DrS w3 wa w.heap.size ao bs' c (q + 1)) => HP.out wa (q + 1) Sa (by omega) (2 ^ n + j / 23) (IntKind.i64.wrap (IntKind.i64.wrap (2 ^ n) + IntKind.i64.wrap ((j : Int) / 23))) (hpw j hj) (by omega) (by omega))
  have H3 := Lib.hid (fun (wb : World) (Sb : DrS w3 wb w.heap.size ao bs' c (q + 1 + 1)) => HP.out wb (q + 1 + 1) Sb (by omega) 24 24 rfl (by omega) (by omega))
  have ho3 : w3.drew.ownsRow w2.heap.size 3 1 v (1 + k) (rs.map (Value.int .i64)) := ho
  have HR := Lib.hid (And.intro hrl (And.intro B3 (And.intro hsz2 hrn)))
  rw [hn]
  clear hrl ho S4 HD B3 hb3 hsz2 hn hpw hrn
  go_wp2
  go_region_held_law (fun _ => True) (trivial) (first
    | (go_at_call 63; (with_reducible refine H1.out.mono ?_); rintro e wa ⟨j, hj, rfl, Sa, hsa, howna, _⟩; have hoa := howna _ _ _ _ hRlt ho3; clear howna)
    | (go_at_call 63; (with_reducible refine (H2.out wa j hj Sa).mono ?_); rintro e wb ⟨y, hy, rfl, Sb, hsb, hownb, _⟩; have hob := hownb _ _ _ _ hRlt hoa; clear hownb)
    | (go_at_call 63; (with_reducible refine (H3.out wb Sb).mono ?_); rintro e wd ⟨x, hx, rfl, Sd, hsd, hownd, _⟩; have hod := hownd _ _ _ _ hRlt hob; clear hownd))
  all_goals
    have HT := Lib.hid (And.intro hod Sd)
    clear hod Sd hoa hob ho3 Sa Sb
    go_wp2
    go_ret2
    exact ⟨v, rs, _, rfl, by have := HR.out.2.2.2; omega, by rw [HR.out.1]; exact own_mono HT.out.1 HR.out.2.2.1, HR.out.2.1.trans HT.out.2.bl⟩
end Go.Proofs.Ytcdiicckngndcab
