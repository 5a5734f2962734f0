/-
  The law FnKindCount: its draw and its walk; for whatever bytes.
-/
import Derived.Test.YtfcpfhffkfbgdaaHX
import Derived.Test.YtfcpfhffkfbgdaaJF
import Derived.Test.YtfcpfhffkfbgdaaDE
import Derived.Test.YtfcpfhffkfbgdaaRL
import Derived.Test.YtfcpfhffkfbgdaaSI
namespace Go.Proofs.Ytfcpfhffkfbgdaa
open Go.RowKit

theorem drawKindCount_any (ao : Option Addr) (c : Nat) (bs : List Nat) (w : World) (hb : RdB w ao bs) (hc : bs.length ≤ c) (hbA : bs ≠ [] → ∀ a, ao = some a → a.block < w.heap.size) :
    Calls Try.prog 30 #[.slice ao bs.length c] w fun e w' => ∃ (n : Nat) (st : ByteArray), e = .returned (.tuple #[.int .i64 n, .string st]) ∧ 1 ≤ n ∧ n ≤ 4 ∧ st.size ≤ 12 ∧ Below w.heap.size w w' := by
  have HB := Lib.hid (And.intro hb hbA)
  clear hb hbA
  go_enter Try.func30, Try.ntmps30
  go_wp2_with fail
  refine (open_any ao c bs w hc).mono ?_
  rintro e w1 ⟨bs', hbs, rfl, hr, hB⟩
  have hl : bs'.length ≤ 2000 := by rw [hbs, List.length_take]; omega
  have hA : bs' ≠ [] → ∀ a, ao = some a → a.block < w.heap.size := fun h => HB.out.2 (fun e => h (by rw [hbs, e]; rfl))
  have HA := Lib.hid hA
  clear hA
  have hb1 : RdB w1 ao bs' := by rw [hbs]; exact (HB.out.1.take 2000).below hB
  have S : DrS w1 w1 w.heap.size ao bs' c 0 := ⟨hr, Below.refl _ _, Nat.le_refl _, fun _ _ _ => rfl⟩
  have HC := Lib.hid (pick_step S hb1 HA.out hl (by omega) 3 3 rfl (by omega) (by omega))
  clear hr hbs S
  go_wp2_with fail
  refine HC.out.mono ?_
  rintro e w2 ⟨k, hk, rfl, S2, hss, _, _⟩
  have HD := Lib.hid (pick_step S2 hb1 HA.out hl (by omega) 24 24 rfl (by omega) (by omega))
  clear HC S2 hss
  go_wp2_with fail
  refine HD.out.mono ?_
  rintro e w3 ⟨j, hj, rfl, S3, hss, _, _⟩
  have S4 : DrS w3 w3 w.heap.size ao bs' c 2 := ⟨S3.rd, Below.refl _ _, Nat.le_refl _, fun _ _ _ => rfl⟩
  have hb3 := hb1.keep HA.out S3.bl S3.sz
  have HK := Lib.hid (l91Kinds_any S4 hb3 HA.out hl (by omega) risat (by decide) (by decide))
  have hB3 : Below w.heap.size w w3 := hB.trans S3.bl
  have hj2 : j / 23 ≤ 1 := by omega
  have hd : ((j : Nat) : Int) / 23 = ((j / 23 : Nat) : Int) := by omega
  have HS := Lib.hid hB3
  have HDV := Lib.hid hd
  clear HD S3 S4 hss hb3 hB3 hB hd
  go_wp2_with fail
  refine (l3Letters_any w3).mono ?_
  rintro e w4 ⟨rfl, rfl⟩
  go_wp2_with fail
  refine HK.out.mono ?_
  rintro e w5 ⟨st, q, rfl, hst, S5⟩
  have HR := Lib.hid (And.intro hst (HS.out.trans S5.bl))
  clear hst S5 HK
  go_wp2
  go_ret2
  have e1 : ((1 + k + j / 23 : Nat) : Int) = 1 + (k : Int) + (j : Int) / 23 := by omega
  exact ⟨1 + k + j / 23, st, by rw [e1]; rfl, by omega, by omega, HR.out.1, HR.out.2⟩

/-! what is counted -/
theorem counts1 : countC 1 ⟨#[114, 115, 116]⟩ (List.range 2) = 1 ∧ countC 1 ⟨#[102, 100]⟩ (List.range 2) = 1 ∧ countC 1 ⟨#[114, 97, 116]⟩ (List.range 2) = 1 ∧ countC 1 ⟨#[102, 100, 106, 111]⟩ (List.range 2) = 1 := by decide +kernel
theorem counts2 : countC 2 ⟨#[114, 115, 116]⟩ (List.range 16) = 2 ∧ countC 2 ⟨#[102, 100]⟩ (List.range 16) = 4 ∧ countC 2 ⟨#[114, 97, 116]⟩ (List.range 16) = 3 ∧ countC 2 ⟨#[102, 100, 106, 111]⟩ (List.range 16) = 2 := by decide +kernel
theorem counts3 : countC 3 ⟨#[114, 115, 116]⟩ (List.range 512) = 5 ∧ countC 3 ⟨#[102, 100]⟩ (List.range 512) = 27 ∧ countC 3 ⟨#[114, 97, 116]⟩ (List.range 512) = 19 ∧ countC 3 ⟨#[102, 100, 106, 111]⟩ (List.range 512) = 6 := by decide +kernel
theorem kc_no {n : Int} {st : ByteArray} (h : countB n st = false) : countR n st = 0 := by unfold countR; rw [h]; rfl
theorem kc_bound {n : Nat} {st : ByteArray} (h : countB (n : Int) st = true) : 0 ≤ countR (n : Int) st ∧ countR (n : Int) st ≤ ((2 ^ (n * n) : Nat) : Int) := by
  have hr : countR (n : Int) st = ((countC n st (List.range (2 ^ (n * n))) : Nat) : Int) := by unfold countR; rw [h, if_pos rfl, Int.toNat_natCast]
  rw [hr]
  have := countC_le n st (List.range (2 ^ (n * n)))
  rw [List.length_range] at this
  omega
theorem kc_at (n : Nat) (st : ByteArray) (v : Nat) (hb : countB (n : Int) st = true) (hv : countC n st (List.range (2 ^ (n * n))) = v) (hs : st.size ≤ 1048576) (w : World) :
    Calls Try.prog 29 #[.int .i64 n, .string st] w fun e w' => e = .returned (.tuple #[.int .i64 (v : Int), .bool true]) ∧ Below w.heap.size w w' := by
  have h := implKindCount_any (n : Int) st w hs
  have hr : countR (n : Int) st = (v : Int) := by unfold countR; rw [hb, if_pos rfl, Int.toNat_natCast, hv]
  rw [hr, hb] at h
  exact h

theorem fnKindCount_long (ao : Option Addr) (cap n : Nat) (w : World) (hm : n ≤ maxLen) (hl : ¬ n ≤ 1048576) :
    Calls Try.prog 9 #[.slice ao n cap] w fun e w' => e = .returned (.bool true) ∧ Below w.heap.size w w' := by
  unfold maxLen at hm
  go_enter Try.func9, Try.ntmps9
  go_wp2
  go_ret
  exact ⟨rfl, Below.refl _ _⟩

set_option maxHeartbeats 8000000 in
theorem fnKindCount_walk (ao : Option Addr) (c : Nat) (bs : List Nat) (w : World) (hl : bs.length ≤ 1048576) (hb : RdB w ao bs) (hc : bs.length ≤ c) (hbA : bs ≠ [] → ∀ a, ao = some a → a.block < w.heap.size) :
    Calls Try.prog 9 #[.slice ao bs.length c] w fun e w' => e = .returned (.bool true) ∧ Below w.heap.size w w' := by
  have HD := Lib.hid (drawKindCount_any ao c bs w hb hc hbA)
  clear hb hbA
  go_enter Try.func9, Try.ntmps9
  go_wp2_with fail
  refine HD.out.mono ?_
  rintro e w1 ⟨n, st, rfl, hn1, hn4, hst, B1⟩
  clear HD
  have hs2 : st.size ≤ 1048576 := by omega
  have hI := fun w => implKindCount_any (n : Int) st w hs2
  have hS := fun w => specKindCount_any (n : Int) st w hs2
  cases hp : countB (n : Int) st with
  | false =>
    rw [hp, kc_no hp] at hI hS
    have HC := Lib.hid (And.intro hI hS)
    clear hI hS hp
    go_wp2_with fail
    refine (HC.out.1 _).mono ?_
    rintro e w2 ⟨rfl, b2⟩
    have B2 := B1.trans (b2.mono B1.size)
    clear b2 B1
    go_wp2_with fail
    refine (HC.out.2 _).mono ?_
    rintro e w3 ⟨rfl, b3⟩
    go_wp2
    go_ret
    exact ⟨rfl, B2.trans (b3.mono B2.size)⟩
  | true =>
    have hb := kc_bound hp
    have hn := (count_cases hp).1
    rw [hp] at hI hS
    obtain ⟨r, hr⟩ : ∃ r, countR (n : Int) st = r := ⟨_, rfl⟩
    rw [hr] at hI hS hb
    have HC := Lib.hid (And.intro hI hS)
    clear hI hS hp hr hs2 hst
    rcases (by omega : n = 1 ∨ n = 2 ∨ n = 3) with rfl | rfl | rfl
    · obtain ⟨hb1, hb2⟩ := hb
      have hb3 : r ≤ 2 := hb2
      have HK := Lib.hid (And.intro (kc_at 1 ⟨#[114, 115, 116]⟩ 1 (by decide +kernel) counts1.1 (by decide)) (And.intro (kc_at 1 ⟨#[102, 100]⟩ 1 (by decide +kernel) counts1.2.1 (by decide)) (And.intro (kc_at 1 ⟨#[114, 97, 116]⟩ 1 (by decide +kernel) counts1.2.2.1 (by decide)) (And.intro (kc_at 1 ⟨#[102, 100, 106, 111]⟩ 1 (by decide +kernel) counts1.2.2.2 (by decide)) (fun w => implEquCount_any 1 w)))))
      clear hb2 hn hn1 hn4
      go_wp2_with fail
      refine (HC.out.1 _).mono ?_
      rintro e w2 ⟨rfl, b2⟩
      have B2 := B1.trans (b2.mono B1.size)
      clear b2 B1
      go_wp2_with fail
      refine (HC.out.2 _).mono ?_
      rintro e w3 ⟨rfl, b3⟩
      have B3 := B2.trans (b3.mono B2.size)
      clear b3 B2
      go_wp2_with fail
      refine (HK.out.1 _).mono ?_
      rintro e w4 ⟨rfl, b4⟩
      have B4 := B3.trans (b4.mono B3.size)
      clear b4 B3
      go_wp2_with fail
      refine (HK.out.2.2.2.2 _).mono ?_
      rintro e w5 ⟨rfl, b5⟩
      rw [show equN 1 = 1 from rfl, show inB 1 1 4 = true from rfl]
      have B5 := B4.trans (b5.mono B4.size)
      clear b5 B4
      go_wp2_with fail
      refine (HK.out.2.1 _).mono ?_
      rintro e w6 ⟨rfl, b6⟩
      have B6 := B5.trans (b6.mono B5.size)
      clear b6 B5
      go_wp2_with fail
      refine (HK.out.2.2.1 _).mono ?_
      rintro e w7 ⟨rfl, b7⟩
      have B7 := B6.trans (b7.mono B6.size)
      clear b7 B6
      go_wp2_with fail
      refine (HK.out.2.2.2.1 _).mono ?_
      rintro e w8 ⟨rfl, b8⟩
      have B8 := B7.trans (b8.mono B7.size)
      clear b8 B7
      go_wp2
      go_ret
      exact ⟨rfl, ((B8.alloc B8.size _).alloc (by have := B8.size; simp; omega) _).alloc (by have := B8.size; simp; omega) _⟩
    · obtain ⟨hb1, hb2⟩ := hb
      have hb3 : r ≤ 16 := hb2
      have HK := Lib.hid (And.intro (kc_at 2 ⟨#[114, 115, 116]⟩ 2 (by decide +kernel) counts2.1 (by decide)) (And.intro (kc_at 2 ⟨#[102, 100]⟩ 4 (by decide +kernel) counts2.2.1 (by decide)) (And.intro (kc_at 2 ⟨#[114, 97, 116]⟩ 3 (by decide +kernel) counts2.2.2.1 (by decide)) (And.intro (kc_at 2 ⟨#[102, 100, 106, 111]⟩ 2 (by decide +kernel) counts2.2.2.2 (by decide)) (fun w => implEquCount_any 2 w)))))
      clear hb2 hn hn1 hn4
      go_wp2_with fail
      refine (HC.out.1 _).mono ?_
      rintro e w2 ⟨rfl, b2⟩
      have B2 := B1.trans (b2.mono B1.size)
      clear b2 B1
      go_wp2_with fail
      refine (HC.out.2 _).mono ?_
      rintro e w3 ⟨rfl, b3⟩
      have B3 := B2.trans (b3.mono B2.size)
      clear b3 B2
      go_wp2_with fail
      refine (HK.out.1 _).mono ?_
      rintro e w4 ⟨rfl, b4⟩
      have B4 := B3.trans (b4.mono B3.size)
      clear b4 B3
      go_wp2_with fail
      refine (HK.out.2.2.2.2 _).mono ?_
      rintro e w5 ⟨rfl, b5⟩
      rw [show equN 2 = 2 from rfl, show inB 2 1 4 = true from rfl]
      have B5 := B4.trans (b5.mono B4.size)
      clear b5 B4
      go_wp2_with fail
      refine (HK.out.2.1 _).mono ?_
      rintro e w6 ⟨rfl, b6⟩
      have B6 := B5.trans (b6.mono B5.size)
      clear b6 B5
      go_wp2_with fail
      refine (HK.out.2.2.1 _).mono ?_
      rintro e w7 ⟨rfl, b7⟩
      have B7 := B6.trans (b7.mono B6.size)
      clear b7 B6
      go_wp2_with fail
      refine (HK.out.2.2.2.1 _).mono ?_
      rintro e w8 ⟨rfl, b8⟩
      have B8 := B7.trans (b8.mono B7.size)
      clear b8 B7
      go_wp2
      go_ret
      exact ⟨rfl, ((B8.alloc B8.size _).alloc (by have := B8.size; simp; omega) _).alloc (by have := B8.size; simp; omega) _⟩
    · obtain ⟨hb1, hb2⟩ := hb
      have hb3 : r ≤ 512 := hb2
      have HK := Lib.hid (And.intro (kc_at 3 ⟨#[114, 115, 116]⟩ 5 (by decide +kernel) counts3.1 (by decide)) (And.intro (kc_at 3 ⟨#[102, 100]⟩ 27 (by decide +kernel) counts3.2.1 (by decide)) (And.intro (kc_at 3 ⟨#[114, 97, 116]⟩ 19 (by decide +kernel) counts3.2.2.1 (by decide)) (And.intro (kc_at 3 ⟨#[102, 100, 106, 111]⟩ 6 (by decide +kernel) counts3.2.2.2 (by decide)) (fun w => implEquCount_any 3 w)))))
      clear hb2 hn hn1 hn4
      go_wp2_with fail
      refine (HC.out.1 _).mono ?_
      rintro e w2 ⟨rfl, b2⟩
      have B2 := B1.trans (b2.mono B1.size)
      clear b2 B1
      go_wp2_with fail
      refine (HC.out.2 _).mono ?_
      rintro e w3 ⟨rfl, b3⟩
      have B3 := B2.trans (b3.mono B2.size)
      clear b3 B2
      go_wp2_with fail
      refine (HK.out.1 _).mono ?_
      rintro e w4 ⟨rfl, b4⟩
      have B4 := B3.trans (b4.mono B3.size)
      clear b4 B3
      go_wp2_with fail
      refine (HK.out.2.2.2.2 _).mono ?_
      rintro e w5 ⟨rfl, b5⟩
      rw [show equN 3 = 5 from rfl, show inB 3 1 4 = true from rfl]
      have B5 := B4.trans (b5.mono B4.size)
      clear b5 B4
      go_wp2_with fail
      refine (HK.out.2.1 _).mono ?_
      rintro e w6 ⟨rfl, b6⟩
      have B6 := B5.trans (b6.mono B5.size)
      clear b6 B5
      go_wp2_with fail
      refine (HK.out.2.2.1 _).mono ?_
      rintro e w7 ⟨rfl, b7⟩
      have B7 := B6.trans (b7.mono B6.size)
      clear b7 B6
      go_wp2_with fail
      refine (HK.out.2.2.2.1 _).mono ?_
      rintro e w8 ⟨rfl, b8⟩
      have B8 := B7.trans (b8.mono B7.size)
      clear b8 B7
      go_wp2
      go_ret
      exact ⟨rfl, ((B8.alloc B8.size _).alloc (by have := B8.size; simp; omega) _).alloc (by have := B8.size; simp; omega) _⟩
end Go.Proofs.Ytfcpfhffkfbgdaa
