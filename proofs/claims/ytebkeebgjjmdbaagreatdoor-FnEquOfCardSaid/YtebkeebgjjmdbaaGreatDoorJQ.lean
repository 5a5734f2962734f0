/-
  The draw of an equivalence: l92Equ, l92Same, DrawEquClasses.
-/
import Derived.Test.YtebkeebgjjmdbaaGreatDoorDE
import Derived.Deep.RegionHeld
namespace Go.Proofs.YtebkeebgjjmdbaaGreatDoor
open Go.RowKit

theorem DrS.then {w wd w' : World} {R : Nat} {ao : Option Addr} {bs : List Nat} {c p q : Nat} (S : DrS w wd R ao bs c p) (T : DrS wd w' R ao bs c q) : DrS w w' R ao bs c q :=
  ⟨T.rd, S.bl.trans T.bl, Nat.le_trans S.sz T.sz, fun b hlt hne => (T.oth b (Nat.lt_of_lt_of_le hlt S.sz) hne).trans (S.oth b hlt hne)⟩
theorem DrS.here {w wd : World} {R : Nat} {ao : Option Addr} {bs : List Nat} {c p : Nat} (S : DrS w wd R ao bs c p) : DrS wd wd R ao bs c p :=
  ⟨S.rd, Below.refl _ _, Nat.le_refl _, fun _ _ _ => rfl⟩
theorem DrS.drew {w wd : World} {R : Nat} {ao : Option Addr} {bs : List Nat} {c p : Nat} (S : DrS w wd R ao bs c p) : DrS w wd.drew R ao bs c p :=
  ⟨S.rd, S.bl.drew, S.sz, S.oth⟩

set_option maxRecDepth 20000 in
set_option maxHeartbeats 8000000 in
theorem l92Equ_any {w : World} {R : Nat} {ao : Option Addr} {bs : List Nat} {c p : Nat} (S : DrS w w R ao bs c p) (hb : RdB w ao bs) (hbR : bs ≠ [] → ∀ a, ao = some a → a.block < R) (hl : bs.length ≤ 2000) (hp : p ≤ 900) (n : Nat) (ni : Int) (hni : ni = (n : Int)) (h1 : 1 ≤ n) (h4 : n ≤ 4) :
    Calls Tryz.prog 31 #[.pointer (some ⟨R, 0, none⟩), .int .i64 ni] w fun e w' => ∃ (v : Value) (rs : List Int) (q : Nat), e = .returned v ∧ rs.length = n ∧ w'.ownsRow w.heap.size 3 1 v n (rs.map (Value.int .i64)) ∧ q ≤ p + 30 ∧ DrS w w' R ao bs c q := by
  subst hni
  have hRw : R < w.heap.size := (Array.getElem?_eq_some_iff.1 S.rd).1
  have HP := Lib.hid (fun (wr : World) (p : Nat) (S : DrS w wr R ao bs c p) (hp : p ≤ 1048576) => pick_step S hb hbR hl hp)
  have HR := Lib.hid (fun (wr : World) (p : Nat) (S : DrS w wr R ao bs c p) (hp : p ≤ 1000) => l91Rel_any S.here (hb.keep hbR S.bl S.sz) hbR hl hp n (n : Int) rfl h1 h4)
  obtain ⟨i0, hi, hz0, hz1, hz2⟩ := info_parts Tryz.info3
  clear hb hbR
  go_enter Tryz.func31, Tryz.ntmps31
  go_wp2_with (at_make; refine wpList_make_full _ rfl _ _ 23 rfl w.heap.size 3 i0 (.int .i64 0) 1 Tryz.underlying23 hi hz0 hz1 _ _ _ _ n rfl rfl rfl rfl ?c1 ?c2 ?c3 ?_)
  case c1 => rw [hz2]; omega
  case c2 => unfold maxLen; omega
  case c3 => exact Nat.le_refl _
  intro w1 hown hgrow
  have hB : Below w.heap.size w w1 := (Below.refl _ _).grown hgrow (Nat.le_refl _) (by simp)
  rw [toList_madeCells_one] at hown
  have S1 := S.step hRw hB
  have ho1 : w1.ownsRow w.heap.size 3 1 (.slice (some ⟨w.heap.size, 0, none⟩) n n) n ((List.replicate n (0 : Int)).map (Value.int .i64)) := by simpa using hown
  clear hown hgrow hB S
  go_wp2
  go_loopw [6] (fun i wr => ∃ (k q : Nat) (rs : List Int), k ≤ n ∧ i = .int .i64 k ∧ rs.length = n ∧ q ≤ p + 2 * k ∧ wr.ownsRow w.heap.size 3 1 (.slice (some ⟨w.heap.size, 0, none⟩) n n) n (rs.map (Value.int .i64)) ∧ DrS w wr R ao bs c q)
    (fun i _ => n - (intOf i).toNat)
  case atStart => exact ⟨0, p, _, Nat.zero_le _, rfl, List.length_replicate, by omega, ho1, S1⟩
  case round =>
    clear ho1 S1
    obtain ⟨k, q, rs, hk, rfl, hrl, hq, ho, S⟩ := hrel
    by_cases hlt : k < n
    · have hi1 : ((k : Nat) : Int) < (n : Int) := by omega
      have ho2 : wr.drew.ownsRow w.heap.size 3 1 (.slice (some ⟨w.heap.size, 0, none⟩) n n) n (rs.map (Value.int .i64)) := ho
      have HA := Lib.hid (HP.out wr.drew q S.drew (by omega) 3 (3 : Int) rfl (by omega) (by omega))
      have HB := Lib.hid (fun (wa : World) (Sa : DrS w wa R ao bs c (q + 1)) => HP.out wa (q + 1) Sa (by omega) n (n : Int) rfl (by omega) (by omega))
      have HRL := Lib.hid hrl
      clear ho S hrl
      go_wp2
      go_region_held (fun _ => True) (trivial) (first
        | (go_at_call 29; (with_reducible refine HA.out.mono ?_); rintro e wa ⟨z, hz, rfl, Sa, hsa, howna, _⟩; have hoa := howna _ _ _ _ hRw ho2; clear howna)
        | (go_at_call 29; (with_reducible refine (HB.out wa Sa).mono ?_); rintro e wb ⟨y, hy, rfl, Sb, hsb, hownb, _⟩; have hob := hownb _ _ _ _ hRw hoa; have hc5 := hob.cellAt k (by omega); have hf5 := hob.frozenAt k; rw [List.getElem?_map, rowAt_get (by rw [HRL.out]; exact hlt)] at hc5; replace hc5 : wb.cell? ⟨w.heap.size, k, none⟩ = some (.int .i64 (rowAt rs k)) := hc5; clear hownb))
      all_goals
        go_wp2
        go_roundw
        case rel =>
          refine ⟨k + 1, q + 1 + 1, rs.set k ?val5, by omega, by go_num, ?len5, by omega, ?own5, Sb.step hRw ((Below.refl _ _).setCell (p := ⟨w.heap.size, k, none⟩) (by have := Sb.sz; show w.heap.size ≤ w.heap.size; omega) _)⟩
          case own5 =>
            rw [List.map_set]
            exact (hob.stored k _).1
          case len5 =>
            rw [List.length_set]
            exact HRL.out
        case measure => simp [intOf]; omega
    · obtain rfl : k = n := by omega
      have hc := kindLeast_any (some ⟨w.heap.size, 0, none⟩) k rs ⟨#[114, 115, 116]⟩ wr (by omega) (by decide) (rd_own ho hrl)
      rw [hrl] at hc
      have HRL := Lib.hid hrl
      have hs := S.sz
      cases hB : leastB rs ⟨#[114, 115, 116]⟩ with
      | false =>
        rw [hB] at hc
        have HC := Lib.hid hc
        clear hc hB hrl ho
        go_wp2_with fail
        refine HC.out.mono ?_
        rintro e wd ⟨v, rfl, _, hbd⟩
        have Sd := S.step hRw (hbd.mono hs)
        have HE := Lib.hid (HR.out wd q Sd (by omega))
        clear HC hbd
        go_wp2_with fail
        refine HE.out.mono ?_
        rintro e we ⟨v, rs', q', rfl, hl', ho', hq', T⟩
        have HT := Lib.hid (And.intro hl' (And.intro ho' (And.intro hq' (And.intro T Sd))))
        clear hl' ho' hq' T Sd HE
        go_wp2
        go_ret
        exact ⟨v, rs', q', rfl, HT.out.1, own_mono HT.out.2.1 HT.out.2.2.2.2.sz, by have := HT.out.2.2.1; omega, HT.out.2.2.2.2.then HT.out.2.2.2.1⟩
      | true =>
        rw [hB] at hc
        have hle := leastL_len rs ⟨#[114, 115, 116]⟩
        rw [hrl] at hle
        have HLE := Lib.hid hle
        have HC := Lib.hid hc
        clear hc hB hrl ho hle
        go_wp2_with fail
        refine HC.out.mono ?_
        rintro e wd ⟨v, rfl, hod, hbd⟩
        have Sd := S.step hRw (hbd.mono hs)
        have hod2 : wd.ownsRow w.heap.size 3 1 v k ((leastL rs ⟨#[114, 115, 116]⟩).map (Value.int .i64)) := by
          have := own_mono hod hs
          rw [show (ifR true (leastL rs ⟨#[114, 115, 116]⟩)).length = k from HLE.out] at this
          exact this
        have HA := Lib.hid (HP.out wd q Sd (by omega) 24 (24 : Int) rfl (by omega) (by omega))
        clear HC hbd hod
        go_wp2_with fail
        refine HA.out.mono ?_
        rintro e we ⟨z, hz, rfl, Se, hse, howne, _⟩
        have hoe := howne _ _ _ _ hRw hod2
        clear howne hod2 HA
        by_cases hz0' : z = 0
        · subst hz0'
          have HE := Lib.hid (HR.out we (q + 1) Se (by omega))
          have HSE := Lib.hid Se
          clear hoe Sd Se
          go_wp2_with fail
          refine HE.out.mono ?_
          rintro e wf ⟨v', rs', q', rfl, hl', ho', hq', T⟩
          have HT := Lib.hid (And.intro hl' (And.intro ho' (And.intro hq' T)))
          clear hl' ho' hq' T HE
          go_wp2
          go_ret
          exact ⟨v', rs', q', rfl, HT.out.1, own_mono HT.out.2.1 HSE.out.sz, by have := HT.out.2.2.1; omega, HSE.out.then HT.out.2.2.2⟩
        · have e0 : (((z : Nat) : Int) == 0) = false := beq_eq_false_iff_ne.2 (by omega)
          have HT := Lib.hid (And.intro hoe Se)
          clear hoe Se Sd
          go_wp2
          go_ret
          exact ⟨v, leastL rs ⟨#[114, 115, 116]⟩, q + 1, rfl, HLE.out, HT.out.1, by omega, HT.out.2⟩

/-- what a draw of one list gives -/
theorem l92Same_any (ao : Option Addr) (c : Nat) (bs : List Nat) (w : World) (hb : RdB w ao bs) (hc : bs.length ≤ c) (hbA : bs ≠ [] → ∀ a, ao = some a → a.block < w.heap.size) :
    Calls Tryz.prog 14 #[.slice ao bs.length c] w fun e w' => ∃ (v : Value) (rs : List Int), e = .returned v ∧ rs.length ≤ 4 ∧ w'.ownsRow w.heap.size 3 1 v rs.length (rs.map (Value.int .i64)) ∧ Below w.heap.size w w' := by
  have HB := Lib.hid (And.intro hb hbA)
  clear hb hbA
  go_enter Tryz.func14, Tryz.ntmps14
  go_wp2_with fail
  refine (open_any ao c bs w hc).mono ?_
  rintro e w1 ⟨bs', hbs, rfl, hr, hB⟩
  have hl : bs'.length ≤ 2000 := by rw [hbs, List.length_take]; omega
  have hA : bs' ≠ [] → ∀ a, ao = some a → a.block < w.heap.size := fun h => HB.out.2 (fun e => h (by rw [hbs, e]; rfl))
  have HA := Lib.hid hA
  clear hA
  have hb1 : RdB w1 ao bs' := by rw [hbs]; exact (HB.out.1.take 2000).below hB
  have S : DrS w1 w1 w.heap.size ao bs' c 0 := ⟨hr, Below.refl _ _, Nat.le_refl _, fun _ _ _ => rfl⟩
  have HC := Lib.hid (pick_step S hb1 HA.out hl (by omega) 4 4 rfl (by omega) (by omega))
  clear hr hbs
  go_wp2_with fail
  refine HC.out.mono ?_
  rintro e w2 ⟨k, hk, rfl, S2, hss, _, _⟩
  have hb2 := hb1.keep HA.out S2.bl S2.sz
  have HD := Lib.hid (l92Equ_any S2.here hb2 HA.out hl (by omega) (1 + k) (1 + (k : Int)) (by omega) (by omega) (by omega))
  have hB2 : Below w.heap.size w w2 := hB.trans S2.bl
  have hsz2 := hB2.size
  have HS := Lib.hid hB2
  clear HC S S2 hb1 hb2 hB hB2 hss
  go_wp2_with fail
  refine HD.out.mono ?_
  rintro e w3 ⟨v, rs, q, rfl, hrl, ho, _, S4⟩
  have HR := Lib.hid (And.intro hrl (And.intro ho S4))
  clear hrl ho S4 HD
  go_wp2
  go_ret
  exact ⟨v, rs, rfl, by have := HR.out.1; omega, by rw [HR.out.1]; exact own_mono HR.out.2.1 hsz2, HS.out.trans HR.out.2.2.bl⟩
end Go.Proofs.YtebkeebgjjmdbaaGreatDoor
