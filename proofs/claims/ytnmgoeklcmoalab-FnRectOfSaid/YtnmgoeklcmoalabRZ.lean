/-
  The draw of a number of points and rectangles: DrawRectOf.
-/
import Derived.Test.YtnmgoeklcmoalabRX
import Derived.Deep.RegionHeldLaw
namespace Go.Proofs.Ytnmgoeklcmoalab
open Go.RowKit

theorem wrapTop (n : Nat) (h5 : n ≤ 5) : IntKind.i64.wrap (2 ^ n) = ((2 ^ n : Nat) : Int) := by
  rcases (by omega : n = 0 ∨ n = 1 ∨ n = 2 ∨ n = 3 ∨ n = 4 ∨ n = 5) with rfl | rfl | rfl | rfl | rfl | rfl <;> decide +kernel
theorem wrapMore5 (n j : Nat) (h5 : n ≤ 5) (hj : j < 24) : IntKind.i64.wrap (IntKind.i64.wrap (2 ^ n) + IntKind.i64.wrap ((j : Int) / 23)) = ((2 ^ n + j / 23 : Nat) : Int) := by
  have e : (j : Int) / 23 = ((j / 23 : Nat) : Int) := by omega
  rw [e]
  have hj2 : j / 23 = 0 ∨ j / 23 = 1 := by omega
  rcases hj2 with h | h <;> rw [h] <;> (rcases (by omega : n = 0 ∨ n = 1 ∨ n = 2 ∨ n = 3 ∨ n = 4 ∨ n = 5) with rfl | rfl | rfl | rfl | rfl | rfl <;> decide +kernel)
set_option maxRecDepth 100000 in
set_option maxHeartbeats 8000000 in
theorem drawRectOf_any (ao : Option Addr) (c : Nat) (bs : List Nat) (w : World) (hb : RdB w ao bs) (hc : bs.length ≤ c) (hbA : bs ≠ [] → ∀ a, ao = some a → a.block < w.heap.size) :
    Calls Try.prog 25 #[.slice ao bs.length c] w (DrewR w) := by
  have HB := Lib.hid (And.intro hb hbA)
  obtain ⟨i0, hi, hz0, hz1, hz2⟩ := info_parts Try.info223
  clear hb hbA
  go_enter Try.func25, Try.ntmps25
  go_wp2_with fail
  refine (open_any ao c bs w hc).mono ?_
  rintro e w1 ⟨bs', hbs, rfl, hr, hB⟩
  have hl : bs'.length ≤ 2000 := by rw [hbs, List.length_take]; omega
  have hA : bs' ≠ [] → ∀ a, ao = some a → a.block < w.heap.size := fun h => HB.out.2 (fun e => h (by rw [hbs, e]; rfl))
  have HA := Lib.hid hA
  clear hA
  have hb1 : RdB w1 ao bs' := by rw [hbs]; exact (HB.out.1.take 2000).below hB
  have S : DrS w1 w1 w.heap.size ao bs' c 0 := ⟨hr, Below.refl _ _, Nat.le_refl _, fun _ _ _ => rfl⟩
  have HC := Lib.hid (pick_step S hb1 HA.out hl (by omega) 4 4 rfl (by omega) (by omega))
  clear hr hbs S
  go_wp2_with fail
  refine HC.out.mono ?_
  rintro e w2 ⟨k, hk, rfl, S2, hss, _, _⟩
  have HD := Lib.hid (pick_step S2 hb1 HA.out hl (by omega) 24 24 rfl (by omega) (by omega))
  clear HC S2 hss
  go_wp2_with fail
  refine HD.out.mono ?_
  rintro e w3 ⟨j, hj, rfl, S3, hss, _, _⟩
  have hj1 : j / 23 ≤ 1 := by omega
  have hRw : w.heap.size < w3.heap.size := (Array.getElem?_eq_some_iff.1 S3.rd).1
  have hb3 := hb1.keep HA.out S3.bl S3.sz
  have HP := Lib.hid (fun (wr : World) (p : Nat) (S : DrS w3 wr w.heap.size ao bs' c p) (hp : p ≤ 1048576) => pick_step S.hereD (hb3.keep HA.out S.bl S.sz) HA.out hl hp)
  have S4 := (S3.hereD).step hRw (below_one w3 (.cells #[] 23))
  have o4 : Own2 (w3.alloc (.cells #[] 23)) w3.heap.size (w3.alloc (.cells #[] 23)).heap.size (.slice (some ⟨w3.heap.size, 0, none⟩) 0 0) 0 (PI []) (fun _ => 0) := Own2.empty (World.ownsRow_lit w3 #[] 0 (Nat.le_refl _) (by unfold maxLen; omega) rfl)
  have H8 := Lib.hid (HP.out _ _ S4 (by omega) 4 4 rfl (by omega) (by omega))
  have HS := Lib.hid (hB.trans S3.bl)
  have HO4 := Lib.hid (And.intro o4 S4)
  obtain ⟨N, hN⟩ : ∃ N : Nat, 1 + (k : Int) + (j : Int) / 23 = (N : Int) := ⟨1 + k + j / 23, by omega⟩
  have hN1 : 1 ≤ N := by omega
  have hN5 : N ≤ 5 := by omega
  have h32 : 2 ^ N ≤ 32 := by rcases (by omega : N = 1 ∨ N = 2 ∨ N = 3 ∨ N = 4 ∨ N = 5) with rfl | rfl | rfl | rfl | rfl <;> decide
  have h01 : 1 ≤ 2 ^ N := Nat.one_le_two_pow
  have HW := Lib.hid (wrapTop N hN5)
  have HW2 := Lib.hid (fun (z : Nat) (hz : z < 24) => wrapMore5 N z hN5 hz)
  have HN := Lib.hid hN
  clear HD S3 hss hb1 hB S4 o4 hb3 hN
  go_wp2_with fail
  rw [HN.out]
  refine H8.out.mono ?_
  rintro e w5 ⟨K, hK, rfl, T5, hs5, _, _⟩
  have o5 := HO4.out.1.picked hRw T5 hs5
  have S5 := HO4.out.2.thenX T5
  clear T5 hs5 H8 HO4
  go_wp2
  go_loopw [6, 8] (fun v i wr => ∃ (m q : Nat) (L : List (Int × Int)) (gs : Nat → Nat), m ≤ K ∧ i = .int .i64 m ∧ L.length = m ∧ q ≤ 3 + 3 * m ∧ Own2 wr w3.heap.size wr.heap.size v m (PI L) gs ∧ DrS w3 wr w.heap.size ao bs' c q)
    (fun _ i _ => K - (intOf i).toNat)
  case atStart => exact ⟨0, _, [], _, Nat.zero_le _, rfl, rfl, by omega, o5, S5⟩
  case round =>
    clear o5 S5
    obtain ⟨m, q, L, gs, hm, rfl, rfl, hq, ho, S⟩ := hrel
    by_cases hlt : L.length < K
    · have hi1 : ((L.length : Nat) : Int) < (K : Int) := by omega
      have H1 := Lib.hid (HP.out wr.drew q ⟨S.rd, S.bl.drew, S.sz, S.oth⟩ (by omega) (2 ^ N) (IntKind.i64.wrap (2 ^ N)) HW.out (by omega) (by omega))
      have ho2 : Own2 wr.drew w3.heap.size wr.drew.heap.size u6 L.length (PI L) gs := ho.same (Nat.le_refl _) fun _ _ _ => rfl
      have hSd : DrS w3 wr.drew w.heap.size ao bs' c q := ⟨S.rd, S.bl.drew, S.sz, S.oth⟩
      have HO := Lib.hid (And.intro ho2 hSd)
      clear ho S ho2 hSd
      go_wp2
      go_region_held_law (fun _ => True) (trivial) (first
        | (go_at_call 51; (with_reducible refine H1.out.mono ?_); rintro e wa ⟨x, hx, rfl, Ta, hsa, _, _⟩; have oa := HO.out.1.picked hRw Ta hsa; have Sa := HO.out.2.thenX Ta; have H2 := Lib.hid (HP.out wa (q + 1) Sa (by omega) 24 24 rfl (by omega) (by omega)); have HOa := Lib.hid (And.intro oa Sa); clear Ta hsa oa Sa)
        | (go_at_call 51; (with_reducible refine H2.out.mono ?_); rintro e wb ⟨z, hz, rfl, Tb, hsb, _, _⟩; have hzz : z / 23 ≤ 1 := (by omega); have ob := HOa.out.1.picked hRw Tb hsb; have Sb := HOa.out.2.thenX Tb; have H3 := Lib.hid (HP.out wb (q + 1 + 1) Sb (by omega) (2 ^ N + z / 23) (IntKind.i64.wrap (IntKind.i64.wrap (2 ^ N) + IntKind.i64.wrap ((z : Int) / 23))) (HW2.out z hz) (by omega) (by omega)); have HOb := Lib.hid (And.intro ob Sb); clear Tb hsb ob Sb)
        | (go_at_call 51; (with_reducible refine H3.out.mono ?_); rintro e wc ⟨y, hy, rfl, Tc, hsc, _, _⟩; have oc := HOb.out.1.picked hRw Tc hsc; have Sc := HOb.out.2.thenX Tc; have h6 := cell_one_new (wc.alloc (.cells #[.int .i64 x, .int .i64 y] 3)) (sl2 wc.heap.size) 23; rw [World.size_alloc] at h6; have H6 := Lib.hid h6; clear Tc hsc h6)
        | (refine step_append_own rfl (.tmp 26) (.tmp 40) 25 rfl w3.heap.size 23 i0 (.slice none 0 0) 1 24 Try.underlying25 hi hz0 hz1 hz2 rfl (by decide) _ _ _ rfl ((oc.row.alloc _).alloc _) ⟨wc.heap.size + 1, 0, none⟩ 1 1 [_] rfl rfl H6.out (by simp [Value.oneCell']) (by unfold maxLen; omega) (by omega) (by have := Sc.sz; simp; omega) ?_; intro v' w6 hown' hgrow))
      have hb' : Below w3.heap.size wc w6 := ((below_two wc _ _).mono Sc.sz).grown hgrow (Nat.le_trans Sc.sz (below_two wc _ _).size) (fun q hq => (oc.row.lt q hq).1)
      have S' := Sc.step hRw hb'
      have hpush := oc.push Sc.sz (x : Int) (y : Int) hown' hgrow (r' := PI (L ++ [((x : Int), (y : Int))])) (fun t ht => PI_old _ _ t ht) (PI_new _ _)
      have HO6 := Lib.hid (And.intro hpush S')
      clear hown' hgrow hpush hb' oc Sc S' H6 H1 H2 H3 HO HOa HOb
      go_wp2
      go_roundw
      case rel => exact ⟨L.length + 1, q + 1 + 1 + 1, L ++ [_], _, by omega, by go_num, by simp, by omega, HO6.out.1, HO6.out.2⟩
      case measure => simp [intOf]; omega
    · obtain rfl : L.length = K := by omega
      have H1 := Lib.hid (HP.out wr q S (by omega) 30 30 rfl (by omega) (by omega))
      have HO := Lib.hid (And.intro ho S)
      clear ho S
      go_wp2_with fail
      refine H1.out.mono ?_
      rintro e wd ⟨z, hz, rfl, Td, hsd, _, _⟩
      have od := HO.out.1.picked hRw Td hsd
      have Sd := HO.out.2.thenX Td
      clear Td hsd H1 HO
      by_cases hz0' : z = 0
      · subst hz0'
        have h6 := cell_one_new (wd.alloc (.cells #[.int .i64 1] 3)) (.slice (some ⟨wd.heap.size, 0, none⟩) 1 1) 23
        rw [World.size_alloc] at h6
        have H6 := Lib.hid h6
        clear h6
        go_wp2_with (at_builtin; refine wpList_append_own _ rfl (.tmp 46) (.tmp 48) 25 rfl w3.heap.size 23 i0 (.slice none 0 0) 1 24 Try.underlying25 hi hz0 hz1 hz2 rfl (by decide) _ _ _ rfl ((od.row.alloc _).alloc _) ⟨wd.heap.size + 1, 0, none⟩ 1 1 [_] rfl rfl H6.out (by simp [Value.oneCell']) (by unfold maxLen; omega) (by omega) (by have := Sd.sz; simp; omega) ?_)
        intro v' w6 hown' hgrow _
        have hb' : Below w3.heap.size wd w6 := ((below_two wd _ _).mono Sd.sz).grown hgrow (Nat.le_trans Sd.sz (below_two wd _ _).size) (fun q hq => (od.row.lt q hq).1)
        have S' := Sd.step hRw hb'
        obtain ⟨ra, rc, rfl, hrd⟩ := rows_more od 1 hown' hgrow
        have HF := Lib.hid (And.intro hrd (HS.out.trans S'.bl))
        clear hown' hgrow hb' od Sd S' H6 hrd
        go_wp2
        go_ret2
        refine ⟨N, (List.range L.length).map (PI L) ++ [[1]], ra, rc, by rw [List.length_append, List.length_map, List.length_range]; rfl, by omega, by omega, by simp; omega, fun xs hxs => ?_, HF.out.1, HF.out.2⟩
        rcases List.mem_append.1 hxs with h | h
        · exact PI_two L xs h
        · simp at h
          rw [h]
          decide
      · have e0 : (((z : Nat) : Int) == 0) = false := beq_eq_false_iff_ne.2 (by omega)
        obtain ⟨ra, rc, rfl, hrd⟩ := own2_rows od
        have HF := Lib.hid (And.intro hrd (HS.out.trans Sd.bl))
        clear od Sd hrd
        go_wp2
        go_ret2
        exact ⟨N, (List.range L.length).map (PI L), ra, rc, by rw [List.length_map, List.length_range]; rfl, by omega, by omega, by simp; omega, fun xs hxs => PI_two L xs hxs, HF.out.1, HF.out.2⟩
end Go.Proofs.Ytnmgoeklcmoalab
