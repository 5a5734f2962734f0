/-
  The draw of a number of points and pairs: DrawRelOf.
-/
import Derived.Test.YtnmgoeklcmoalabSR
import Derived.Test.YtnmgoeklcmoalabRD
import Derived.Test.YtnmgoeklcmoalabQD
namespace Go.Proofs.Ytnmgoeklcmoalab
open Go.RowKit

theorem DrS.thenX {w wd w' : World} {R : Nat} {ao : Option Addr} {bs : List Nat} {c p q : Nat} (S : DrS w wd R ao bs c p) (T : DrS wd w' R ao bs c q) : DrS w w' R ao bs c q :=
  ⟨T.rd, S.bl.trans T.bl, Nat.le_trans S.sz T.sz, fun b hlt hne => (T.oth b (Nat.lt_of_lt_of_le hlt S.sz) hne).trans (S.oth b hlt hne)⟩
/-- a draw leaves a list of rows as it was -/
theorem Own2.picked {w w' : World} {R lo n p : Nat} {v : Value} {r : Nat → List Int} {gs : Nat → Nat} {ao : Option Addr} {bs : List Nat} {c : Nat} (h : Own2 w lo w.heap.size v n r gs) (hR : R < lo) (S : DrS w w' R ao bs c p) (hs : w.heap.size = w'.heap.size) : Own2 w' lo w'.heap.size v n r gs := by
  rw [← hs]
  exact h.same S.sz fun k h1 h2 => S.oth k h2 (by omega)
/-- one more row, of one number -/
theorem rows_more {W w3 : World} {lo n : Nat} {v v' : Value} {r : Nat → List Int} {gs : Nat → Nat} (h : Own2 W lo W.heap.size v n r gs) (a : Int)
    (hown : w3.ownsRow lo 23 1 v' (n + 1) ((List.range n).map (fun k => sl2 (gs k)) ++ [.slice (some ⟨W.heap.size, 0, none⟩) 1 1]))
    (hgrow : ((W.alloc (.cells #[.int .i64 a] 3)).alloc (.cells #[.slice (some ⟨W.heap.size, 0, none⟩) 1 1] 23)).grownBy w3 v.ownBlock) :
    ∃ ao cap, v' = .slice ao (n + 1) cap ∧ RdS w3 ao ((List.range n).map r ++ [[a]]) := by
  have hsz := hgrow.size
  simp only [World.size_alloc] at hsz
  have hnew : w3.heap[W.heap.size]? = some (.cells #[.int .i64 a] 3) := by
    have h1 : ((W.alloc (.cells #[.int .i64 a] 3)).alloc (.cells #[.slice (some ⟨W.heap.size, 0, none⟩) 1 1] 23)).heap[W.heap.size]? = some (.cells #[.int .i64 a] 3) :=
      (Below.heap_alloc _ _ _ (by simp)).trans (World.alloc_heap_new W _)
    refine (hgrow.block W.heap.size (by simp; omega) ?_).trans h1
    intro e
    have := (h.row.lt _ e.symm).2
    omega
  have hold : ∀ j, j < n → Rd w3 (some ⟨gs j, 0, none⟩) (r j) := fun j hj => by
    obtain ⟨l2, o2⟩ := h.rows j hj
    have hlt := (o2.row.lt _ rfl).2
    have hrow := o2.row
    rw [l2] at hrow
    have hr := rd_own hrow l2
    intro k x hk
    obtain ⟨b, off, e, hb, hc⟩ := hr k x hk
    cases e
    refine ⟨gs j, 0, rfl, by omega, ?_⟩
    have h1 : ((W.alloc (.cells #[.int .i64 a] 3)).alloc (.cells #[.slice (some ⟨W.heap.size, 0, none⟩) 1 1] 23)).heap[gs j]? = W.heap[gs j]? :=
      (Below.heap_alloc _ _ _ (by simp; omega)).trans (Below.heap_alloc _ _ _ hlt)
    have hne : some (gs j) ≠ v.ownBlock := by
      intro e
      rcases h.row.2 with ⟨rfl, _⟩ | ⟨g, cap, cur, rfl, _⟩
      · cases e
      · cases e
        exact rows_apart2 o2.row h.row rfl
    exact (World.cell?_of_block (a := ⟨gs j, 0 + k, none⟩) ((hgrow.block (gs j) (by simp; omega) hne).trans h1)).trans hc
  rcases hown.2 with ⟨rfl, h0⟩ | ⟨g, cap, cur, rfl, _⟩
  · omega
  · refine ⟨_, cap, rfl, fun k xs hk => ?_⟩
    have hgl := (hown.lt g rfl).2
    by_cases hkn : k < n
    · rw [List.getElem?_append_left (by simp; exact hkn), List.getElem?_map, List.getElem?_range hkn] at hk
      cases hk
      have hc := hown.cellAt k (by omega)
      rw [List.getElem?_append_left (by simp; exact hkn), List.getElem?_map, List.getElem?_range hkn] at hc
      refine ⟨g, 0, some ⟨gs k, 0, none⟩, 2, rfl, hgl, ?_, hold k hkn⟩
      rw [Nat.zero_add, (h.rows k hkn).1]
      exact hc
    · have hlk := (List.getElem?_eq_some_iff.1 hk).1
      simp at hlk
      obtain rfl : k = n := by omega
      rw [List.getElem?_append_right (by simp), List.length_map, List.length_range, Nat.sub_self] at hk
      cases hk
      have hc := hown.cellAt k (by omega)
      rw [List.getElem?_append_right (by simp), List.length_map, List.length_range, Nat.sub_self] at hc
      refine ⟨g, 0, some ⟨W.heap.size, 0, none⟩, 1, rfl, hgl, by rw [Nat.zero_add]; exact hc, fun j x hj => ?_⟩
      have hjl := (List.getElem?_eq_some_iff.1 hj).1
      simp at hjl
      subst hjl
      cases hj
      refine ⟨W.heap.size, 0, rfl, by omega, ?_⟩
      simp [World.cell?, hnew]
/-- what a draw gives: a number, and a few lists of at most two numbers -/
def DrewR (w : World) (e : Ending) (w' : World) : Prop :=
  ∃ (n : Nat) (xss : List (List Int)) (ao : Option Addr) (cap : Nat), e = .returned (.tuple #[.int .i64 n, .slice ao xss.length cap]) ∧ 1 ≤ n ∧ n ≤ 5 ∧ xss.length ≤ 9 ∧ (∀ xs, xs ∈ xss → xs.length ≤ 2) ∧ RdS w' ao xss ∧ Below w.heap.size w w'
theorem PI_two (L : List (Int × Int)) (xs : List Int) (h : xs ∈ (List.range L.length).map (PI L)) : xs.length ≤ 2 := by
  obtain ⟨k, hk, rfl⟩ := List.mem_map.1 h
  rw [PI_at (List.getElem?_eq_getElem (List.mem_range.1 hk))]
  exact Nat.le_refl _
set_option maxRecDepth 100000 in
set_option maxHeartbeats 8000000 in
theorem drawRelOf_any (ao : Option Addr) (c : Nat) (bs : List Nat) (w : World) (hb : RdB w ao bs) (hc : bs.length ≤ c) (hbA : bs ≠ [] → ∀ a, ao = some a → a.block < w.heap.size) :
    Calls Try.prog 20 #[.slice ao bs.length c] w (DrewR w) := by
  have HB := Lib.hid (And.intro hb hbA)
  obtain ⟨i0, hi, hz0, hz1, hz2⟩ := info_parts Try.info223
  clear hb hbA
  go_enter Try.func20, Try.ntmps20
  go_wp2_with fail
  refine (open_any ao c bs w hc).mono ?_
  rintro e w1 ⟨bs', hbs, rfl, hr, hB⟩
  have hl : bs'.length ≤ 2000 := by rw [hbs, List.length_take]; omega
  have hA : bs' ≠ [] → ∀ a, ao = some a → a.block < w.heap.size := fun h => HB.out.2 (fun e => h (by rw [hbs, e]; rfl))
  have HA := Lib.hid hA
  clear hA
  have hb1 : RdB w1 ao bs' := by rw [hbs]; exact (HB.out.1.take 2000).below hB
  have S : DrS w1 w1 w.heap.size ao bs' c 0 := ⟨hr, Below.refl _ _, Nat.le_refl _, fun _ _ _ => rfl⟩
  have HC := Lib.hid (pick_step S hb1 HA.out hl (by omega) 4 4 rfl (by omega) (by omega))
  clear hr hbs S
  go_wp2_with fail
  refine HC.out.mono ?_
  rintro e w2 ⟨k, hk, rfl, S2, hss, _, _⟩
  have HD := Lib.hid (pick_step S2 hb1 HA.out hl (by omega) 24 24 rfl (by omega) (by omega))
  clear HC S2 hss
  go_wp2_with fail
  refine HD.out.mono ?_
  rintro e w3 ⟨j, hj, rfl, S3, hss, _, _⟩
  have hj1 : j / 23 ≤ 1 := by omega
  have hRw : w.heap.size < w3.heap.size := (Array.getElem?_eq_some_iff.1 S3.rd).1
  have hb3 := hb1.keep HA.out S3.bl S3.sz
  have HP := Lib.hid (fun (wr : World) (p : Nat) (S : DrS w3 wr w.heap.size ao bs' c p) (hp : p ≤ 1048576) => pick_step S.hereD (hb3.keep HA.out S.bl S.sz) HA.out hl hp)
  have S4 := (S3.hereD).step hRw (below_one w3 (.cells #[] 23))
  have o4 : Own2 (w3.alloc (.cells #[] 23)) w3.heap.size (w3.alloc (.cells #[] 23)).heap.size (.slice (some ⟨w3.heap.size, 0, none⟩) 0 0) 0 (PI []) (fun _ => 0) := Own2.empty (World.ownsRow_lit w3 #[] 0 (Nat.le_refl _) (by unfold maxLen; omega) rfl)
  have H8 := Lib.hid (HP.out _ _ S4 (by omega) 8 8 rfl (by omega) (by omega))
  have HS := Lib.hid (hB.trans S3.bl)
  have HO4 := Lib.hid (And.intro o4 S4)
  clear HD S3 hss hb1 hB S4 o4 hb3
  go_wp2_with fail
  refine H8.out.mono ?_
  rintro e w5 ⟨K, hK, rfl, T5, hs5, _, _⟩
  have o5 := HO4.out.1.picked hRw T5 hs5
  have S5 := HO4.out.2.thenX T5
  clear T5 hs5 H8 HO4
  go_wp2
  go_loopw [6, 8] (fun v i wr => ∃ (m q : Nat) (L : List (Int × Int)) (gs : Nat → Nat), m ≤ K ∧ i = .int .i64 m ∧ L.length = m ∧ q ≤ 3 + 3 * m ∧ Own2 wr w3.heap.size wr.heap.size v m (PI L) gs ∧ DrS w3 wr w.heap.size ao bs' c q)
    (fun _ i _ => K - (intOf i).toNat)
  case atStart => exact ⟨0, _, [], _, Nat.zero_le _, rfl, rfl, by omega, o5, S5⟩
  case round =>
    clear o5 S5
    obtain ⟨m, q, L, gs, hm, rfl, rfl, hq, ho, S⟩ := hrel
    by_cases hlt : L.length < K
    · have hi1 : ((L.length : Nat) : Int) < (K : Int) := by omega
      have H1 := Lib.hid (HP.out wr q S (by omega) (1 + k + j / 23) (1 + (k : Int) + (j : Int) / 23) (by omega) (by omega) (by omega))
      have HO := Lib.hid (And.intro ho S)
      clear ho S
      go_wp2_with fail
      refine H1.out.mono ?_
      rintro e wa ⟨x, hx, rfl, Ta, hsa, _, _⟩
      have oa := HO.out.1.picked hRw Ta hsa
      have Sa := HO.out.2.thenX Ta
      have H2 := Lib.hid (HP.out wa (q + 1) Sa (by omega) 40 40 rfl (by omega) (by omega))
      have HOa := Lib.hid (And.intro oa Sa)
      clear Ta hsa oa Sa H1 HO
      go_wp2_with fail
      refine H2.out.mono ?_
      rintro e wb ⟨z, hz, rfl, Tb, hsb, _, _⟩
      have hzz : z / 39 ≤ 1 := by omega
      have ob := HOa.out.1.picked hRw Tb hsb
      have Sb := HOa.out.2.thenX Tb
      have H3 := Lib.hid (HP.out wb (q + 1 + 1) Sb (by omega) (1 + k + j / 23 + z / 39) (1 + (k : Int) + (j : Int) / 23 + (z : Int) / 39) (by omega) (by omega) (by omega))
      have HOb := Lib.hid (And.intro ob Sb)
      clear Tb hsb ob Sb H2 HOa
      go_wp2_with fail
      refine H3.out.mono ?_
      rintro e wc ⟨y, hy, rfl, Tc, hsc, _, _⟩
      have oc := HOb.out.1.picked hRw Tc hsc
      have Sc := HOb.out.2.thenX Tc
      have h6 := cell_one_new (wc.alloc (.cells #[.int .i64 x, .int .i64 y] 3)) (sl2 wc.heap.size) 23
      rw [World.size_alloc] at h6
      have H6 := Lib.hid h6
      clear Tc hsc H3 HOb h6
      go_wp2_with (at_builtin; refine wpList_append_own _ rfl (.tmp 26) (.tmp 38) 25 rfl w3.heap.size 23 i0 (.slice none 0 0) 1 24 Try.underlying25 hi hz0 hz1 hz2 rfl (by decide) _ _ _ rfl ((oc.row.alloc _).alloc _) ⟨wc.heap.size + 1, 0, none⟩ 1 1 [_] rfl rfl H6.out (by simp [Value.oneCell']) (by unfold maxLen; omega) (by omega) (by have := Sc.sz; simp; omega) ?_)
      intro v' w6 hown' hgrow _
      have hb' : Below w3.heap.size wc w6 := ((below_two wc _ _).mono Sc.sz).grown hgrow (Nat.le_trans Sc.sz (below_two wc _ _).size) (fun q hq => (oc.row.lt q hq).1)
      have S' := Sc.step hRw hb'
      have hpush := oc.push Sc.sz (x : Int) (y : Int) hown' hgrow (r' := PI (L ++ [((x : Int), (y : Int))])) (fun t ht => PI_old _ _ t ht) (PI_new _ _)
      have HO6 := Lib.hid (And.intro hpush S')
      clear hown' hgrow hpush hb' oc Sc S' H6
      go_wp2
      go_roundw
      case rel => exact ⟨L.length + 1, q + 1 + 1 + 1, L ++ [_], _, by omega, by go_num, by simp, by omega, HO6.out.1, HO6.out.2⟩
      case measure => simp [intOf]; omega
    · obtain rfl : L.length = K := by omega
      have H1 := Lib.hid (HP.out wr q S (by omega) 30 30 rfl (by omega) (by omega))
      have HO := Lib.hid (And.intro ho S)
      have e1 : ((1 + k + j / 23 : Nat) : Int) = 1 + (k : Int) + (j : Int) / 23 := by omega
      have HE := Lib.hid e1
      clear ho S e1
      go_wp2_with fail
      refine H1.out.mono ?_
      rintro e wd ⟨z, hz, rfl, Td, hsd, _, _⟩
      have od := HO.out.1.picked hRw Td hsd
      have Sd := HO.out.2.thenX Td
      clear Td hsd H1 HO
      by_cases hz0' : z = 0
      · subst hz0'
        have h6 := cell_one_new (wd.alloc (.cells #[.int .i64 0] 3)) (.slice (some ⟨wd.heap.size, 0, none⟩) 1 1) 23
        rw [World.size_alloc] at h6
        have H6 := Lib.hid h6
        clear h6
        go_wp2_with (at_builtin; refine wpList_append_own _ rfl (.tmp 44) (.tmp 46) 25 rfl w3.heap.size 23 i0 (.slice none 0 0) 1 24 Try.underlying25 hi hz0 hz1 hz2 rfl (by decide) _ _ _ rfl ((od.row.alloc _).alloc _) ⟨wd.heap.size + 1, 0, none⟩ 1 1 [_] rfl rfl H6.out (by simp [Value.oneCell']) (by unfold maxLen; omega) (by omega) (by have := Sd.sz; simp; omega) ?_)
        intro v' w6 hown' hgrow _
        have hb' : Below w3.heap.size wd w6 := ((below_two wd _ _).mono Sd.sz).grown hgrow (Nat.le_trans Sd.sz (below_two wd _ _).size) (fun q hq => (od.row.lt q hq).1)
        have S' := Sd.step hRw hb'
        obtain ⟨ra, rc, rfl, hrd⟩ := rows_more od 0 hown' hgrow
        have HF := Lib.hid (And.intro hrd (HS.out.trans S'.bl))
        clear hown' hgrow hb' od Sd S' H6 hrd
        go_wp2
        go_ret2
        refine ⟨1 + k + j / 23, (List.range L.length).map (PI L) ++ [[0]], ra, rc, by rw [HE.out, List.length_append, List.length_map, List.length_range]; rfl, by omega, by omega, by simp; omega, fun xs hxs => ?_, HF.out.1, HF.out.2⟩
        rcases List.mem_append.1 hxs with h | h
        · exact PI_two L xs h
        · simp at h
          rw [h]
          decide
      · have e0 : (((z : Nat) : Int) == 0) = false := beq_eq_false_iff_ne.2 (by omega)
        obtain ⟨ra, rc, rfl, hrd⟩ := own2_rows od
        have HF := Lib.hid (And.intro hrd (HS.out.trans Sd.bl))
        clear od Sd hrd
        go_wp2
        go_ret2
        exact ⟨1 + k + j / 23, (List.range L.length).map (PI L), ra, rc, by rw [HE.out, List.length_map, List.length_range]; rfl, by omega, by omega, by simp; omega, fun xs hxs => PI_two L xs hxs, HF.out.1, HF.out.2⟩
end Go.Proofs.Ytnmgoeklcmoalab
