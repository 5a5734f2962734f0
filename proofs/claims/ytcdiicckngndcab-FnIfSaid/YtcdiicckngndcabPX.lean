/-
  The draw of two sets and a program: DrawProgTriple; for whatever bytes.
-/
import Derived.Test.YtcdiicckngndcabRD
import Derived.Test.YtcdiicckngndcabPI
namespace Go.Proofs.Ytcdiicckngndcab
open Go.RowKit

/-- what a draw gives: a number, a list of its own of at most 4 numbers, and a number -/
def DrewZ (w : World) (e : Ending) (w' : World) : Prop :=
  ∃ (v : Value) (rs : List Int) (z q : Int), e = .returned (.tuple #[.int .i64 z, v, .int .i64 q]) ∧ rs.length ≤ 4 ∧ w'.ownsRow w.heap.size 3 1 v rs.length (rs.map (Value.int .i64)) ∧ Below w.heap.size w w'

theorem DrS.dn {w wr wr' : World} {R : Nat} {ao : Option Addr} {bs : List Nat} {c p : Nat} (S : DrS w wr R ao bs c p) (hd : Dn wr wr') : DrS w wr' R ao bs c p := by
  obtain ⟨q, rfl⟩ := hd
  exact ⟨S.rd, S.bl.trans (Dn.below ⟨q, rfl⟩ R), S.sz, S.oth⟩
theorem keepU {w w' : World} {lo n : Nat} {v : Value} {us : List Value} (ho : w.ownsRow lo 3 1 v n us) (hB : Below w.heap.size w w') : w'.ownsRow lo 3 1 v n us := by
  refine ⟨ho.1, ?_⟩
  rcases ho.2 with h2 | ⟨g, cap, cur, rfl, h2, h3, h4⟩
  · exact .inl h2
  · exact .inr ⟨g, cap, cur, rfl, h2, (hB.block g (ho.lt g rfl).2).trans h3, h4⟩
theorem pow_wrap5 (n : Nat) (h : n ≤ 5) : wrap64 (2 ^ n) = ((2 ^ n : Nat) : Int) := by
  rcases (by omega : n = 0 ∨ n = 1 ∨ n = 2 ∨ n = 3 ∨ n = 4 ∨ n = 5) with rfl | rfl | rfl | rfl | rfl | rfl <;> decide +kernel
theorem pow_kind5 (n : Nat) (h : n ≤ 5) : IntKind.i64.wrap (2 ^ n) = ((2 ^ n : Nat) : Int) := by
  rcases (by omega : n = 0 ∨ n = 1 ∨ n = 2 ∨ n = 3 ∨ n = 4 ∨ n = 5) with rfl | rfl | rfl | rfl | rfl | rfl <;> decide +kernel
theorem pow_le32 (n : Nat) (h : n ≤ 5) : 1 ≤ 2 ^ n ∧ 2 ^ n ≤ 32 := by
  rcases (by omega : n = 0 ∨ n = 1 ∨ n = 2 ∨ n = 3 ∨ n = 4 ∨ n = 5) with rfl | rfl | rfl | rfl | rfl | rfl <;> decide

set_option maxRecDepth 20000 in
set_option maxHeartbeats 4000000 in
theorem drawProgTriple_any (ao : Option Addr) (c : Nat) (bs : List Nat) (w : World) (hb : RdB w ao bs) (hc : bs.length ≤ c) (hbA : bs ≠ [] → ∀ a, ao = some a → a.block < w.heap.size) :
    Calls Try.prog 23 #[.slice ao bs.length c] w (DrewZ w) := by
  have HB := Lib.hid (And.intro hb hbA)
  have HD := Lib.hid (l91Set_any ao c bs w hb hc hbA)
  clear hb hbA
  go_enter Try.func23, Try.ntmps23
  go_wp2_with fail
  refine HD.out.mono ?_
  rintro e w3 ⟨v, rs, z, rfl, hrl, ho, hB⟩
  obtain ⟨aa, ac, rfl, ra⟩ := row_rd ho
  have HO := Lib.hid (And.intro hrl (And.intro ho hB))
  clear ho hB HD
  go_wp2_with fail
  refine (open_any ao c bs w3 hc).mono ?_
  rintro e w4 ⟨bs', hbs, rfl, hr, hB4⟩
  have hl : bs'.length ≤ 2000 := by rw [hbs, List.length_take]; omega
  have hA : bs' ≠ [] → ∀ a, ao = some a → a.block < w3.heap.size := fun h a e => Nat.lt_of_lt_of_le (HB.out.2 (fun e => h (by rw [hbs, e]; rfl)) a e) HO.out.2.2.size
  have hb4 : RdB w4 ao bs' := by rw [hbs]; exact ((HB.out.1.below HO.out.2.2).take 2000).below hB4
  have c1 := hr.cell1
  have f1 := hr.free 1
  have r5 := hr.at61
  have B5 : Below w3.heap.size w3 (w4.setCell ⟨w3.heap.size, 1, none⟩ (.int .i64 61)) := hB4.setCell (p := ⟨w3.heap.size, 1, none⟩) (Nat.le_refl _) _
  have hb5 : RdB (w4.setCell ⟨w3.heap.size, 1, none⟩ (.int .i64 61)) ao bs' := hb4.keep hA ((Below.refl _ _).setCell (p := ⟨w3.heap.size, 1, none⟩) (Nat.le_refl _) _) (by simp)
  clear hbs hr hB4 hb4
  go_wp2_with fail
  obtain ⟨w5, hw5⟩ : ∃ w5, w4.setCell ⟨w3.heap.size, 1, none⟩ (.int .i64 61) = w5 := ⟨_, rfl⟩
  rw [hw5] at r5 B5 hb5 ⊢
  have HP := Lib.hid (fun (wr : World) (p : Nat) (S : DrS w5 wr w3.heap.size ao bs' c p) (hp : p ≤ 1048576) => pick_step S hb5 hA hl hp)
  have S5 : DrS w5 w5 w3.heap.size ao bs' c 61 := ⟨r5, Below.refl _ _, Nat.le_refl _, fun _ _ _ => rfl⟩
  have ra5 := ra.below B5
  have hl1 : rs.length ≤ 1048576 := by omega
  have HR := Lib.hid (specRelIn_any aa ac rs w5 hl1 ra5)
  have hpw := pow_wrap5 rs.length (by omega)
  have hp32 := pow_le32 rs.length (by omega)
  have HK := Lib.hid (fun (wr : World) (p : Nat) (S : DrS w5 wr w3.heap.size ao bs' c p) (hp : p ≤ 1048576) => HP.out wr p S hp (2 ^ rs.length) (wrap64 (2 ^ rs.length)) hpw (by omega) (by omega))
  have hpk := pow_kind5 rs.length (by omega)
  have HL := Lib.hid (fun (wr : World) (p : Nat) (S : DrS w5 wr w3.heap.size ao bs' c p) (hp : p ≤ 1048576) => HP.out wr p S hp (2 ^ rs.length) (IntKind.i64.wrap (2 ^ rs.length)) hpk (by omega) (by omega))
  have HE := Lib.hid (fun (wX : World) (p : Nat) (S : DrS w5 wX w3.heap.size ao bs' c p) => (And.intro (keepU HO.out.2.1 (B5.trans S.bl)) (HO.out.2.2.trans ((B5.trans S.bl).mono HO.out.2.2.size))))
  have HX := Lib.hid (fun (wX : World) (p : Nat) (S : DrS w5 wX w3.heap.size ao bs' c p) => ra.below (B5.trans S.bl))
  clear hw5 c1 f1 r5 hb5 hA ra hpw hp32 hpk
  refine HR.out.mono ?_
  rintro e w6 ⟨rfl, hd6⟩
  have S6 := S5.dn hd6
  clear HR S5 ra5 hd6 B5
  cases hq : relIn rs with
  | false =>
    have H7 := Lib.hid (HK.out w6 61 S6 (by omega))
    clear S6 hq
    go_wp2_with fail
    refine H7.out.mono ?_
    rintro e w7 ⟨k, hk, rfl, S7, _, _, _⟩
    have HT := Lib.hid (HE.out _ _ S7)
    clear S7
    go_wp2
    go_ret3
    exact ⟨_, rs, z, _, rfl, HO.out.1, HT.out.1, HT.out.2⟩
  | true =>
    have R := Rl.of hq
    have hin := fun wr => l6In_any z 0 (wrap64 (wrap64 (2 ^ rs.length) - 1)) wr
    rw [row_top rs.length z R.one R.four] at hin
    cases hz : rowIn rs.length z with
    | false =>
      rw [hz] at hin
      have HN := Lib.hid hin
      have H7 := Lib.hid (HK.out w6 61 S6 (by omega))
      clear S6 hq hz hin R
      go_wp2_with fail
      refine (HN.out _).mono ?_
      rintro e wn ⟨rfl, rfl⟩
      go_wp2_with fail
      refine H7.out.mono ?_
      rintro e w7 ⟨k, hk, rfl, S7, _, _, _⟩
      have HT := Lib.hid (HE.out _ _ S7)
      clear S7
      go_wp2
      go_ret3
      exact ⟨_, rs, z, _, rfl, HO.out.1, HT.out.1, HT.out.2⟩
    | true =>
      rw [hz] at hin
      have hst := St.of R.four hz
      have HN := Lib.hid hin
      have HI := Lib.hid (fun (wX : World) (p : Nat) (S : DrS w5 wX w3.heap.size ao bs' c p) => img_any R hst aa ac wX (HX.out wX p S))
      have H7 := Lib.hid (HP.out w6 61 S6 (by omega) 2 2 rfl (by omega) (by omega))
      obtain ⟨r, hr⟩ : ∃ r, imgA rs z = r := ⟨_, rfl⟩
      rw [hr] at HI
      clear S6 hq hz hin R hst hr
      go_wp2_with fail
      refine (HN.out _).mono ?_
      rintro e wn ⟨rfl, rfl⟩
      go_wp2_with fail
      refine H7.out.mono ?_
      rintro e w7 ⟨k, hk, rfl, S7, _, _, _⟩
      cases hk0 : ((k : Int) == 0) with
      | false =>
        have H8 := Lib.hid (HK.out w7 62 S7 (by omega))
        clear S7
        go_wp2_with fail
        refine H8.out.mono ?_
        rintro e w8 ⟨k8, hk8, rfl, S8, _, _, _⟩
        have HT := Lib.hid (HE.out _ _ S8)
        clear S8
        go_wp2
        go_ret3
        exact ⟨_, rs, z, _, rfl, HO.out.1, HT.out.1, HT.out.2⟩
      | true =>
        have S := S7.dn (Dn.drew w7)
        clear S7
        go_wp2
        go_region_held_law (fun _ => True) (trivial) (first
          | (go_at_call 48; (with_reducible refine (HI.out _ _ S).mono ?_); rintro e wa ⟨rfl, hda⟩; have S := S.dn hda; clear hda)
          | (go_at_call 63; (with_reducible refine (HL.out _ _ S (by omega)).mono ?_); rintro e wb ⟨kb, hkb, rfl, S, _, _, _⟩))
        all_goals
          have HT := Lib.hid (HE.out _ _ S)
          clear S
          go_wp2
          go_ret3
          exact ⟨_, rs, z, _, rfl, HO.out.1, HT.out.1, HT.out.2⟩
end Go.Proofs.Ytcdiicckngndcab
