/-
  EquClasses, of the program and of the model.
-/
import Derived.Test.YtebkeebgjjmdbaaGreatDoorJD
import Derived.Test.YtebkeebgjjmdbaaGreatDoorJK
import Derived.StillTailTactics
namespace Go.Proofs.YtebkeebgjjmdbaaGreatDoor
open Go.RowKit

theorem specEquClasses_any (ao : Option Addr) (ca : Nat) (xs : List Int) (w : World) (hl : xs.length ≤ 1048576) (hx : Rd w ao xs) :
    Calls Tryz.prog 30 #[.slice ao xs.length ca] w (Gave w (ifR (equB xs) (clsL xs)) (equB xs)) := by
  have h1 := specEquIn_any ao ca xs w hl hx
  cases hp : equB xs with
  | false =>
    rw [hp] at h1
    have H1 := Lib.hid h1
    clear h1 hp hx
    go_enter Tryz.func30, Tryz.ntmps30
    go_wp2_with fail
    refine H1.out.mono ?_
    rintro e w1 ⟨rfl, hb⟩
    have hr := own_mono (row_lit0 w1) hb.size
    go_wp2
    go_ret2
    exact ⟨_, rfl, hr, hb.alloc hb.size _⟩
  | true =>
    rw [hp] at h1
    have h4 := (relIn_len (equ_yes hp).1).2
    have H1 := Lib.hid h1
    have HC := Lib.hid (fun wr h => l4Classes_any ao ca xs wr h4 h)
    clear h1 hp
    go_enter Tryz.func30, Tryz.ntmps30
    go_wp2_with fail
    refine H1.out.mono ?_
    rintro e w1 ⟨rfl, hb⟩
    have hx1 := hx.below hb
    clear hx
    go_wp2_with fail
    refine (HC.out _ hx1).mono ?_
    rintro e w2 ⟨v, rfl, ho, hb2⟩
    have hr := own_mono ho hb.size
    go_wp2
    go_ret2
    exact ⟨v, rfl, hr, hb.trans (hb2.mono hb.size)⟩

set_option maxRecDepth 20000 in
set_option maxHeartbeats 4000000 in
theorem implEquClasses_any (ao : Option Addr) (ca : Nat) (xs : List Int) (w : World) (hl : xs.length ≤ 1048576) (hx : Rd w ao xs) :
    Calls Tryz.prog 8 #[.slice ao xs.length ca] w (Gave w (ifR (equB xs) (clsL xs)) (equB xs)) := by
  cases hp : equB xs with
  | false =>
    have HC := Lib.hid (equivalenceFrom_no ao ca xs w hl hp hx)
    clear hp hx
    go_enter Tryz.func8, Tryz.ntmps8
    go_wp2_with fail
    refine HC.out.mono ?_
    rintro e w1 ⟨rfl, hb⟩
    go_wp2
    go_ret2
    exact ⟨.slice none 0 0, rfl, World.ownsRow_nil _ _ _ _, hb.alloc hb.size _⟩
  | true =>
    obtain ⟨i0, hi, hz0, hz1, hz2⟩ := info_parts Tryz.info3
    have E := (equ_iff xs).1 hp
    obtain ⟨f1, f2, f3, _, _⟩ := cls_facts xs (enum_all E)
    have R := E.rl
    have hF := linkS_fo R
    have h4 := R.four
    have hcl := cm_le (linkS xs) xs.length
    have hlen := clAcc_len (linkS xs) xs.length xs.length
    have hLk := fun wr => linkedBy_any R wr
    have hNu := fun (B : Nat) (wr : World) (h : LinkW wr B xs.length (linkS xs)) hB => numbers_any hF h4 wr h hB
    have H1 := Lib.hid (equivalenceFrom_yes ao ca xs w hp hx)
    have HB := Lib.hid (And.intro hLk (And.intro hNu (And.intro f1 (And.intro f2 hlen))))
    clear hp hx E R hF f1 f2 hLk hNu hlen f3
    go_enter Tryz.func8, Tryz.ntmps8
    go_wp2_with fail
    refine H1.out.mono ?_
    rintro e w1 ⟨rfl, hb⟩
    have x1 := RelAt.new w1 xs
    have B1 := hb.alloc hb.size (.cells #[.int .i64 xs.length, .int .i64 (rowAt xs 0), .int .i64 (rowAt xs 1), .int .i64 (rowAt xs 2), .int .i64 (rowAt xs 3)] 36)
    have p0 := x1.cell0
    have p1 := x1.cell1
    have p2 := x1.cell2
    have p3 := x1.cell3
    have p4 := x1.cell4
    clear x1 hb
    go_wp2_with fail
    refine (HB.out.1 _).mono ?_
    rintro e w3 ⟨rfl, hK, hs3, hb3⟩
    simp only [World.size_alloc] at hK hs3
    have B3 := B1.trans (hb3.mono B1.size)
    have HK := Lib.hid (And.intro hK hs3)
    clear hb3 B1 hK hs3 p0 p1 p2 p3 p4
    go_wp2_with fail
    refine (HB.out.2.1 _ _ HK.out.1 (by have := HK.out.2; omega)).mono ?_
    rintro e w4 ⟨rfl, ho4, hb4⟩
    have B4 := B3.trans (hb4.mono B3.size)
    have hg4 := (ho4.lt w3.heap.size rfl).2
    have hN := fun (k : Nat) (hk : k < xs.length) => ho4.cellAt k (by omega)
    clear hb4 B3 ho4
    obtain ⟨c, hc⟩ : ∃ c, cm (linkS xs) xs.length = c := ⟨_, rfl⟩
    rw [hc] at hcl HB ⊢
    have HCC := Lib.hid hc
    clear hc
    go_wp2_with (at_make; refine wpList_make_full _ rfl _ _ 23 rfl w4.heap.size 3 i0 (.int .i64 0) 1 Tryz.underlying23 hi hz0 hz1 _ _ _ _ c rfl rfl rfl rfl ?c1 ?c2 ?c3 ?_)
    case c1 => rw [hz2]; omega
    case c2 => unfold maxLen; omega
    case c3 => exact Nat.le_refl _
    intro w5 hown hgrow
    have hB5 : Below w4.heap.size w4 w5 := (Below.refl _ _).grown hgrow (Nat.le_refl _) (by simp)
    rw [toList_madeCells_one] at hown
    have hown0 : w5.ownsRow w4.heap.size 3 1 (.slice (some ⟨w4.heap.size, 0, none⟩) c c) c ((clAcc (linkS xs) xs.length 0).map (Value.int .i64)) := by
      have : clAcc (linkS xs) xs.length 0 = List.replicate c 0 := by rw [← HCC.out]; rfl
      rw [this]
      simpa using hown
    clear hgrow hown
    go_wp2
    go_loopw [28, 9, 10] (fun i _ _ wr => ∃ k : Nat, k ≤ xs.length ∧ i = .int .i64 k ∧ wr.ownsRow w4.heap.size 3 1 (.slice (some ⟨w4.heap.size, 0, none⟩) c c) c ((clAcc (linkS xs) xs.length k).map (Value.int .i64)) ∧ Below w4.heap.size w4 wr)
      (fun i _ _ _ => xs.length - (intOf i).toNat)
    case atStart => exact ⟨0, Nat.zero_le _, rfl, hown0, hB5⟩
    case round =>
      clear hown0 hB5
      obtain ⟨k, hk, rfl, ho, hB⟩ := hrel
      by_cases hlt : k < xs.length
      · have hn := (hB.cell (p := ⟨w3.heap.size, k, none⟩) hg4).trans (hN k hlt)
        have hnk := numTo_get xs.length (linkS xs) xs.length k hlt
        rw [if_pos hlt] at hnk
        rw [List.getElem?_map, show (numL xs.length (linkS xs))[k]? = _ from hnk] at hn
        replace hn : wr.cell? ⟨w3.heap.size, k, none⟩ = some (.int .i64 ((cm (linkS xs) (rt (linkS xs) k) : Nat) : Int)) := hn
        have hmc : cm (linkS xs) (rt (linkS xs) k) < c := HB.out.2.2.2.1 ⟨k, hlt⟩
        have hst := clAcc_succ (linkS xs) xs.length k
        have hln := clAcc_len (linkS xs) xs.length k
        rw [HCC.out] at hln
        obtain ⟨m, hm⟩ : ∃ m, cm (linkS xs) (rt (linkS xs) k) = m := ⟨_, rfl⟩
        rw [hm] at hn hmc hst
        have hc2 := ho.cellAt m (by omega)
        have hf2 := ho.frozenAt m
        rw [List.getElem?_map, rowAt_get (by rw [hln]; exact hmc)] at hc2
        replace hc2 : wr.cell? ⟨w4.heap.size, m, none⟩ = some (.int .i64 (rowAt (clAcc (linkS xs) xs.length k) m)) := hc2
        have hs2 := (ho.stored m (.int .i64 (bits .or .i64 (rowAt (clAcc (linkS xs) xs.length k) m) (pt k)))).1
        rw [← List.map_set] at hs2
        unfold addPair at hst
        rw [← hst] at hs2
        have HO := Lib.hid (And.intro hs2 hB)
        have HP := Lib.hid (fun w => (onePoint_any k (by omega) w).mono fun _ _ (h : _ ∧ _) => (⟨h.1, h.2.symm⟩ : _ ∧ _))
        have hmo : Tryz.prog.follows .mixedOrders = true := by kernel_rfl
        have hi1 : ((k : Nat) : Int) < (xs.length : Int) := by omega
        have hi2 : ((m : Nat) : Int) < (c : Int) := by omega
        obtain ⟨z, hz⟩ : ∃ z, rowAt (clAcc (linkS xs) xs.length k) m = z := ⟨_, rfl⟩
        rw [hz] at hc2 HO
        clear hnk hst hln hm hs2 ho hB hz
        go_wp2
        refine wp_region_still_tail 8 hmo (by kernel_rfl) ?_
        simp only [List.take_succ_cons, List.take_zero, List.drop_succ_cons, List.drop_zero]
        repeat still_step
        still_call (HP.out _)
        repeat still_step
        refine wpStill_nil ?_
        go_wp2
        go_roundw
        case rel => exact ⟨k + 1, by omega, by go_num, HO.out.1, HO.out.2.drew.setCell (p := ⟨w4.heap.size, m, none⟩) (Nat.le_refl _) _⟩
        case measure => simp [intOf]; omega
      · obtain rfl : k = xs.length := by omega
        go_wp2
        go_ret2
        have hf := HB.out.2.2.1
        have hl2 := HB.out.2.2.2.2
        rw [hf] at ho hl2
        exact ⟨_, rfl, by rw [show (ifR true (clsL xs)).length = c from hl2]; exact own_mono ho B4.size, B4.trans (hB.mono B4.size)⟩
end Go.Proofs.YtebkeebgjjmdbaaGreatDoor
