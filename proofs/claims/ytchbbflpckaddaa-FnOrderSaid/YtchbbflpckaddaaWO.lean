/-
  The walk of FnWay, out of the contracts of the draw and of the functions that it calls; for whatever bytes.
-/
import Derived.Test.YtchbbflpckaddaaH
import Derived.Test.YtchbbflpckaddaaDA
import Derived.Test.YtchbbflpckaddaaOD
import Derived.Test.YtchbbflpckaddaaOM
import Derived.Test.YtchbbflpckaddaaOL
import Derived.Test.YtchbbflpckaddaaEG
import Derived.Deep.RegionHeldLaw
import Derived.Test.YtchbbflpckaddaaOC
import Derived.Laws.Cover3
import Derived.Laws.EntriesVeiled
import Derived.Test.YtchbbflpckaddaaOI
import Derived.Test.YtchbbflpckaddaaOW
namespace Go.Proofs.Ytchbbflpckaddaa
open Go.RowKit

set_option maxHeartbeats 1000000 in
theorem sameInts_any (ao bo : Option Addr) (ca cb : Nat) (xs ys : List Int) (w : World) (hl : xs.length ≤ 1048576) (hl2 : ys.length ≤ 1048576) (hx : Rd w ao xs) (hy : Rd w bo ys) :
    Calls Try.prog 19 #[.slice ao xs.length ca, .slice bo ys.length cb] w fun e w' => e = .returned (.bool (decide (xs = ys))) ∧ Dn w w' := by
  go_enter Try.func19, Try.ntmps19
  by_cases hne : xs.length = ys.length
  · have h1 : ((xs.length : Int) != (ys.length : Int)) = false := by simp [hne]
    have hlen := Lib.hid hne
    clear hne
    go_wp2
    go_loopw [5] (fun i wr => ∃ k : Nat, k ≤ xs.length ∧ i = .int .i64 k ∧ xs.take k = ys.take k ∧ Dn w wr)
      (fun i _ => xs.length - (intOf i).toNat)
    case atStart => exact ⟨0, Nat.zero_le _, rfl, rfl, Dn.refl _⟩
    case round =>
      obtain ⟨k, hk, rfl, ht, hd⟩ := hrel
      have HT := Lib.hid ht
      clear ht
      by_cases hlt : k < xs.length
      · have hlt2 : k < ys.length := by rw [← hlen.out]; exact hlt
        obtain ⟨b, off, x, hxk, rfl, hbl, hc1⟩ := (hd.rd hx).get k hlt
        obtain ⟨b2, off2, y, hyk, rfl, hbl2, hc2⟩ := (hd.rd hy).get k hlt2
        have hi1 : ((k : Nat) : Int) < (xs.length : Int) := by omega
        have hi2 : ((k : Nat) : Int) < (ys.length : Int) := by omega
        have HX := Lib.hid hxk
        have HY := Lib.hid hyk
        clear hx hy hxk hyk
        go_wp2
        go_quiet (fail)
        by_cases heq : x = y
        · have h2 : (x != y) = false := by simp [heq]
          have HE := Lib.hid heq
          clear heq
          go_wp2
          go_roundw
          case rel =>
            refine ⟨k + 1, by omega, by go_num, ?_, hd.trans (Dn.drewN _ _)⟩
            rw [List.take_add_one, List.take_add_one, HT.out, HX.out, HY.out, HE.out]
          case measure => simp [intOf]; omega
        · go_wp2
          go_ret
          have hd' : ¬ xs = ys := by
            rintro rfl
            have := HX.out.symm.trans HY.out
            exact heq (by simpa using this)
          exact ⟨by simp [hd'], hd.trans (Dn.drewN _ _)⟩
      · go_wp2
        go_ret
        obtain rfl : k = xs.length := by omega
        have := HT.out
        rw [List.take_length, hlen.out, List.take_length] at this
        exact ⟨by simp [this], hd⟩
  · have h1 : ((xs.length : Int) != (ys.length : Int)) = true := by simp; omega
    go_wp2
    go_ret
    refine ⟨?_, Dn.refl _⟩
    have : ¬ xs = ys := fun h => hne (by rw [h])
    simp [this]

theorem sameInts_refl (ao bo : Option Addr) (ca cb : Nat) (xs : List Int) (w : World) (hl : xs.length ≤ 1048576) (hx : Rd w ao xs) (hy : Rd w bo xs) :
    Calls Try.prog 19 #[.slice ao xs.length ca, .slice bo xs.length cb] w fun e w' => e = .returned (.bool true) ∧ Dn w w' := by
  refine (sameInts_any ao bo ca cb xs xs w hl hl hx hy).mono ?_
  rintro e w' ⟨rfl, hd⟩
  exact ⟨by simp, hd⟩

/-- a slice of bytes that came in reads as bytes -/
theorem rdB_of_row {w : World} {a : Option Addr} {len cap : Nat} {zs : List Int}
    (h : (a = none ∧ len = 0 ∧ cap = 0 ∧ zs = []) ∨
      ∃ x, a = some x ∧ len ≤ cap ∧ cap ≤ maxLen ∧ zs.length = cap ∧ (∀ i, i < zs.length → w.cell? (x.add i) = some (.int .u8 (zs.getD i 0))) ∧ ∀ n ∈ zs, (Lit.int .u8 n).wf = true) :
    ∃ bs : List Nat, bs.length = len ∧ len ≤ maxLen ∧ len ≤ cap ∧ RdB w a bs ∧ (bs ≠ [] → ∀ y, a = some y → y.block < w.heap.size) := by
  rcases h with ⟨rfl, rfl, rfl, rfl⟩ | ⟨x, rfl, hlc, hcm, hz, hc, hwf⟩
  · exact ⟨[], rfl, Nat.zero_le _, Nat.le_refl _, fun k x hx => by simp at hx, fun h => absurd rfl h⟩
  · have key : ∀ k, k < len → (zs.getD k 0).toNat < 256 ∧ ((zs.getD k 0).toNat : Int) = zs.getD k 0 ∧ ∃ b off, x = ⟨b, off, none⟩ ∧ b < w.heap.size ∧ w.cell? ⟨b, off + k, none⟩ = some (.int .u8 (zs.getD k 0)) := by
      intro k hk
      have h1 := hc k (by omega)
      have hm : zs.getD k 0 ∈ zs := by
        rw [List.getD_eq_getElem?_getD, List.getElem?_eq_getElem (by omega)]
        exact List.getElem_mem _
      obtain ⟨y, hy⟩ : ∃ y, zs.getD k 0 = y := ⟨_, rfl⟩
      rw [hy] at hm h1 ⊢
      have hb := hwf _ hm
      simp [Lit.wf, IntKind.min, IntKind.max, IntKind.bits, IntKind.signed] at hb
      refine ⟨by omega, by omega, ?_⟩
      obtain ⟨b, off, sp⟩ := x
      cases sp with
      | none =>
        have hadd : (⟨b, off, none⟩ : Addr).add k = ⟨b, off + k, none⟩ := by unfold Addr.add; split <;> simp_all
        rw [hadd] at h1
        refine ⟨b, off, rfl, ?_, h1⟩
        unfold World.cell? at h1
        cases hh : w.heap[b]? with
        | none => rw [hh] at h1; simp at h1
        | some o => exact (Array.getElem?_eq_some_iff.1 hh).1
      | some s =>
        exfalso
        have h0 := hc 0 (by omega)
        unfold World.cell? Addr.add at h0
        simp at h0
        split at h0 <;> simp_all
    refine ⟨(zs.take len).map Int.toNat, by simp; omega, by omega, hlc, ?_, ?_⟩
    · intro k y hy
      have hk : k < len := by
        have := (List.getElem?_eq_some_iff.1 hy).1
        simp at this
        omega
      obtain ⟨h1, h2, b, off, rfl, h3, h4⟩ := key k hk
      have hy2 : y = (zs.getD k 0).toNat := by
        rw [List.getElem?_map, List.getElem?_take, if_pos hk, List.getElem?_eq_getElem (by omega)] at hy
        have hg : zs.getD k 0 = zs[k]'(by omega) := by rw [List.getD_eq_getElem?_getD, List.getElem?_eq_getElem (by omega)]; rfl
        rw [hg]
        simpa using hy.symm
      rw [hy2]
      exact ⟨h1, b, off, rfl, h3, by rw [h2]; exact h4⟩
    · intro hne y hy
      cases hy
      have hlen : 0 < len := by
        rcases Nat.eq_zero_or_pos len with e | e
        · exact absurd (by rw [e]; rfl) hne
        · exact e
      obtain ⟨_, _, b, off, rfl, h3, _⟩ := key 0 hlen
      exact h3

end Go.Proofs.Ytchbbflpckaddaa

namespace Go.Proofs.Ytchbbflpckaddaa
open Go.RowKit

theorem turn_off {n : Nat} {xs : List Int} (h : Rl n xs) : turnL (offI xs) = offI (turnL xs) :=
  h.off.turn.ext h.turn.off fun i j hi hj => by
    rw [hB_turn h.off i j hi hj, hB_off h j i hj hi, hB_off h.turn i j hi hj, hB_turn h i j hi hj]
    congr 1
    by_cases e : i = j
    · subst e
      rfl
    · have e2 : ¬ j = i := fun q => e q.symm
      simp [e, e2]
theorem ahead_row {n : Nat} {xs : List Int} (h : Rl n xs) (k : Nat) (hk : k < n) : bits .andNot .i64 (rowAt (turnL xs) k) (pt k) = rowAt (aheadL xs) k := by
  unfold aheadL
  rw [turn_off h, ← strict_eq h.turn]
  unfold strictL
  rw [rowRange _ _ _ (by rw [h.turn.len]; exact hk)]
theorem b_bit0 : ∀ z : Fin 16, ∀ k : Fin 4, (bits .and .i64 ((z.val : Int) / 2 ^ k.val) 1 == 0) = !hasB (z.val : Int) k.val := by decide +kernel
theorem or_fin {n : Nat} (h4 : n ≤ 4) {u : Int} (hu : ∃ y : Fin 16, u = (y.val : Int) ∧ y.val < 2 ^ n) (k : Nat) (hk : k < n) : ∃ y : Fin 16, bits .or .i64 u (pt k) = (y.val : Int) ∧ y.val < 2 ^ n := by
  obtain ⟨y, rfl, hy⟩ := hu
  obtain ⟨p, hp, hp2⟩ := b_ptlt ⟨n, by omega⟩ ⟨k, hk⟩
  obtain ⟨z, hz, hz2⟩ := b_orlt ⟨n, by omega⟩ y p hy hp2
  exact ⟨z, by rw [show pt k = (p.val : Int) from hp]; exact hz, hz2⟩

theorem goTo_yes2 {n : Nat} {bk : List Int} {m : Nat} {b : List Int} {u : Int} {k : Nat} (h : freeB bk u k = true) : goTo n bk m b u (k + 1) = goTo n bk m b u k ++ goL n bk m (b ++ [(k : Int)]) (bits .or .i64 u (pt k)) := by
  rw [goTo_succ, h, if_pos rfl]
theorem goTo_no3 {n : Nat} {bk : List Int} {m : Nat} {b : List Int} {u : Int} {k : Nat} (h : freeB bk u k = false) : goTo n bk m b u (k + 1) = goTo n bk m b u k := by
  rw [goTo_succ, h]
  simp

/-- a list of lists of the call's own -/
structure WList (W : World) (G : Nat) (L : Value) (vs : List Value) (ws : List (List Int)) : Prop where
  row : W.ownsRow G 23 1 L vs.length vs
  len : vs.length = ws.length
  each : ∀ (k : Nat) (v : Value) (w : List Int), vs[k]? = some v → ws[k]? = some w → W.ownsRow G 3 1 v w.length (w.map (Value.int .i64))

theorem apartL {W : World} {b1 b2 n m : Nat} {v L : Value} {us vs : List Value} (h : W.ownsRow b1 3 1 v n us) (k : W.ownsRow b2 23 1 L m vs) : v.ownBlock = none ∨ v.ownBlock ≠ L.ownBlock := by
  rcases h.2 with ⟨rfl, _⟩ | ⟨g, cap, cur, rfl, _, hh, _⟩
  · exact .inl rfl
  · right
    rcases k.2 with ⟨rfl, _⟩ | ⟨gp, cap2, cur2, rfl, _, kh, _⟩
    · simp [Value.ownBlock]
    · intro e
      simp [Value.ownBlock] at e
      subst e
      rw [hh] at kh
      simp at kh
theorem WList.below {W W' : World} {G : Nat} {L : Value} {vs : List Value} {ws : List (List Int)} (h : WList W G L vs ws) (hb : Below W.heap.size W W') : WList W' G L vs ws :=
  ⟨own_keepR h.row hb (fun q hq => (h.row.lt q hq).2), h.len, fun k v w hv hw => own_keep (h.each k v w hv hw) hb (fun q hq => ((h.each k v w hv hw).lt q hq).2)⟩
/-- one more behind the list -/
theorem WList.push {W w1 : World} {G : Nat} {L L' bv : Value} {vs : List Value} {ws : List (List Int)} {us : List Int} (h : WList W G L vs ws) (hg : W.grownBy w1 L.ownBlock)
    (hrow : w1.ownsRow G 23 1 L' (vs.length + 1) (vs ++ [bv])) (hb : W.ownsRow G 3 1 bv us.length (us.map (Value.int .i64))) : WList w1 G L' (vs ++ [bv]) (ws ++ [us]) := by
  refine ⟨by rw [List.length_append]; exact hrow, by rw [List.length_append, List.length_append, h.len]; rfl, fun k v w hv hw => ?_⟩
  by_cases hk : k < vs.length
  · rw [List.getElem?_append_left hk] at hv
    rw [List.getElem?_append_left (by rw [← h.len]; exact hk)] at hw
    exact (h.each k v w hv hw).kept hg (apartL (h.each k v w hv hw) h.row)
  · rw [List.getElem?_append_right (by omega)] at hv
    rw [List.getElem?_append_right (by rw [← h.len]; omega)] at hw
    have hk0 : k - vs.length = 0 := by
      rcases Nat.eq_zero_or_pos (k - vs.length) with h0 | h0
      · exact h0
      · rw [List.getElem?_eq_none (by simp; omega)] at hv
        cases hv
    rw [hk0] at hv
    rw [← h.len, hk0] at hw
    simp at hv hw
    subst hv hw
    exact hb.kept hg (apartL hb h.row)

/-- what a call leaves -/
def WPost (G : Nat) (L : Value) (W : World) (ws : List (List Int)) (e : Ending) (W' : World) : Prop :=
  ∃ L' vs, e = .returned L' ∧ WList W' G L' vs ws ∧ W.grownBy W' L.ownBlock ∧ (L'.ownBlock = L.ownBlock ∨ ∀ q, L'.ownBlock = some q → W.heap.size ≤ q)

set_option maxHeartbeats 4000000 in
theorem l5Ways_leaf {W W0 : World} {ao : Option Addr} {ca gb cb : Nat} {xs us : List Int} {u : Int} {L : Value} {vs : List Value} {ws : List (List Int)} (hn : us.length = xs.length)
    (ho : W.ownsRow W0.heap.size 3 1 (.slice (some ⟨gb, 0, none⟩) us.length cb) us.length (us.map (Value.int .i64))) (hL : WList W W0.heap.size L vs ws) (hG : W0.heap.size ≤ W.heap.size) (hm : vs.length ≤ 1000) :
    Calls Try.prog 71 #[.slice ao xs.length ca, .slice (some ⟨gb, 0, none⟩) us.length cb, .int .i64 u, L] W (WPost W0.heap.size L W (ws ++ [us])) := by
  obtain ⟨j0, hj, hw0, hw1, hw2⟩ := info_parts (show (Try.prog.info? 23).map (fun i => (i.zero, i.size, i.bytes)) = some (some (.slice none 0 0), 1, 24) by kernel_rfl)
  have hn' : (us.length : Int) = (xs.length : Int) := by omega
  have HH := Lib.hid (And.intro ho (And.intro hL (And.intro hG hn)))
  have hrow := hL.row
  clear ho hL hn
  go_enter Try.func71, Try.ntmps71
  go_wp2_with (at_builtin; refine wpList_append_own_at _ rfl (.tmp 16) (.tmp 18) 80 rfl W0.heap.size 23 j0 (.slice none 0 0) 1 24 Try.underlying80 hj hw0 hw1 hw2 rfl (by decide) _ _ _ rfl (hrow.alloc _) ⟨W.heap.size, 0, none⟩ 1 1 [_] rfl rfl (cell_one_new _ _ _) (by simp [Value.oneCell']) (by unfold maxLen; omega) (by omega) (by simp; omega) ?_)
  intro v' w1 hown hgrow _ hat
  have hg : W.grownBy w1 L.ownBlock := (World.grownBy_alloc W _ _).trans hgrow
  have HF := Lib.hid (show WPost W0.heap.size L W (ws ++ [us]) (.returned v') w1 from ⟨v', _, rfl, HH.out.2.1.push hg hown HH.out.1, hg, hat.elim .inl (fun e => .inr (fun q hq => by rw [e] at hq; cases hq; omega))⟩)
  clear hown hgrow hat hg
  go_wp2
  go_ret
  exact HF.out

theorem grown_below {W W1 : World} {row : Option Nat} {B : Nat} (h : W.grownBy W1 row) (hB : B ≤ W.heap.size) (hr : ∀ q, row = some q → B ≤ q) : Below B W W1 :=
  (Below.refl B W).grown h hB hr

/-- what stands in a round: the world w1 is that behind the turned relation -/
structure WInv (W0 w1 wr : World) (G : Nat) (L0 L : Value) (vs : List Value) (ws : List (List Int)) : Prop where
  list : WList wr G L vs ws
  grew : w1.grownBy wr L0.ownBlock
  own : L.ownBlock = L0.ownBlock ∨ ∀ q, L.ownBlock = some q → w1.heap.size ≤ q

theorem WInv.dn {W0 w1 wr wr' : World} {G : Nat} {L0 L : Value} {vs : List Value} {ws : List (List Int)} (h : WInv W0 w1 wr G L0 L vs ws) (hd : Dn wr wr') : WInv W0 w1 wr' G L0 L vs ws := by
  obtain ⟨q, rfl⟩ := hd
  exact ⟨⟨h.list.row, h.list.len, h.list.each⟩, ⟨h.grew.os, h.grew.tape, h.grew.output, h.grew.size, h.grew.block⟩, h.own⟩

/-- the call in a round -/
theorem ways_call {W0 w1 wr w3 : World} {ao : Option Addr} {ca gb cb n m k : Nat} {xs bk us : List Int} {u : Int} {L0 L : Value} {vs : List Value} {ws : List (List Int)} (h4 : n ≤ 4)
    (IH : ∀ (us : List Int) (u : Int) (gb cb : Nat) (L : Value) (vs : List Value) (ws : List (List Int)) (W : World), us.length + m = n → (∃ y : Fin 16, u = (y.val : Int) ∧ y.val < 2 ^ n) → Below W0.heap.size W0 W →
      W.ownsRow W0.heap.size 3 1 (.slice (some ⟨gb, 0, none⟩) us.length cb) us.length (us.map (Value.int .i64)) → WList W W0.heap.size L vs ws → (ws ++ goL n bk m us u).length ≤ 1000 →
      Calls Try.prog 71 #[.slice ao xs.length ca, .slice (some ⟨gb, 0, none⟩) us.length cb, .int .i64 u, L] W (WPost W0.heap.size L W (ws ++ goL n bk m us u)))
    (hn : us.length + (m + 1) = n) (hu : ∃ y : Fin 16, u = (y.val : Int) ∧ y.val < 2 ^ n) (hk : k < n) (hf : freeB bk u k = true) (hlen : (ws ++ goL n bk (m + 1) us u).length ≤ 1000)
    (hB1 : Below W0.heap.size W0 w1) (hL0 : ∀ q, L0.ownBlock = some q → W0.heap.size ≤ q) (hI : WInv W0 w1 wr W0.heap.size L0 L vs (ws ++ goTo n bk m us u k))
    (hB3 : Below wr.heap.size wr w3) (ho3 : w3.ownsRow W0.heap.size 3 1 (.slice (some ⟨gb, 0, none⟩) (us.length + 1) cb) (us.length + 1) (us.map (Value.int .i64) ++ [.int .i64 (k : Int)])) :
    Calls Try.prog 71 #[.slice ao xs.length ca, .slice (some ⟨gb, 0, none⟩) (us.length + 1) cb, .int .i64 (bits .or .i64 u (pt k)), L] w3 fun e W' =>
      ∃ L' vs', e = .returned L' ∧ WInv W0 w1 W' W0.heap.size L0 L' vs' (ws ++ goTo n bk m us u (k + 1)) := by
  have hG1 := hB1.size
  have hwr := hI.grew.size
  have hBr : Below W0.heap.size W0 wr := hB1.trans (grown_below hI.grew hG1 hL0)
  have hgy := goTo_yes2 (n := n) (m := m) (b := us) hf
  obtain ⟨r2, hr2⟩ := goTo_split n bk m us u k hk
  have h := IH (us ++ [(k : Int)]) (bits .or .i64 u (pt k)) gb cb L vs (ws ++ goTo n bk m us u k) w3 (by rw [List.length_append]; simp; omega) (or_fin h4 hu k hk) (hBr.trans (hB3.mono hBr.size))
    (by rw [List.length_append, List.map_append]; exact ho3) (hI.list.below hB3) (by
      rw [hr2, hgy] at hlen
      simp only [List.length_append] at hlen ⊢
      omega)
  rw [List.length_append] at h
  refine h.mono ?_
  rintro e W' ⟨L', vs', rfl, hl, hg, hat⟩
  have g3 : w1.grownBy w3 L0.ownBlock := hI.grew.trans ⟨hB3.os, hB3.tape, hB3.output, hB3.size, fun q hq _ => hB3.block q hq⟩
  have hs3 := g3.size
  have g4 : w1.grownBy W' L0.ownBlock := ⟨hg.os.trans g3.os, hg.tape.trans g3.tape, hg.output.trans g3.output, Nat.le_trans g3.size hg.size, fun q hq hne => by
    refine (hg.block q (by omega) ?_).trans (g3.block q hq hne)
    rcases hI.own with e | e
    · rw [e]; exact hne
    · intro e2
      have := e q e2.symm
      omega⟩
  refine ⟨L', vs', rfl, ?_, g4, ?_⟩
  · rw [hgy, ← List.append_assoc]
    exact hl
  · rcases hat with e | e
    · rw [e]; exact hI.own
    · exact .inr fun q hq => Nat.le_trans hs3 (e q hq)

theorem cell_at_new (w : World) (x : Value) (t : TypeId) : (w.alloc (.cells #[x] t)).heap[w.heap.size]? = some (.cells #[x] t (0, 0)) := World.alloc_heap_new w _
theorem lit_kept {w w2 : World} {row : Option Nat} {b : Nat} {x : Value} {t : TypeId} (hg : w.grownBy w2 row) (h : w.heap[b]? = some (.cells #[x] t (0, 0))) (hne : some b ≠ row) :
    ∀ j u, [x][j]? = some u → w2.cell? ((⟨b, 0, none⟩ : Addr).add j) = some u := by
  intro j u hj
  have h2 := (hg.block b (Array.getElem?_eq_some_iff.1 h).1 hne).trans h
  match j, hj with
  | 0, hj =>
    simp at hj
    subst hj
    simp [Addr.add, World.cell?, h2]
theorem form_one {W : World} {base n : Nat} {v : Value} {us : List Value} {e : TypeId} (h : W.ownsRow base e 1 v n us) (hn : 1 ≤ n) : ∃ g cap, v = .slice (some ⟨g, 0, none⟩) n cap := by
  rcases h.2 with ⟨_, h0⟩ | ⟨g, cap, cur, rfl, _⟩
  · omega
  · exact ⟨g, cap, rfl⟩

set_option maxRecDepth 100000 in
set_option maxHeartbeats 8000000 in
theorem l5Ways_step {W W0 : World} {ao : Option Addr} {ca gb cb m : Nat} {xs us : List Int} {u : Int} {L : Value} {vs : List Value} {ws : List (List Int)} (hrel : relIn xs = true) (hx0 : Rd W0 ao xs)
    (IH : ∀ (us : List Int) (u : Int) (gb cb : Nat) (L : Value) (vs : List Value) (ws : List (List Int)) (W : World), us.length + m = xs.length → (∃ y : Fin 16, u = (y.val : Int) ∧ y.val < 2 ^ xs.length) → Below W0.heap.size W0 W →
      W.ownsRow W0.heap.size 3 1 (.slice (some ⟨gb, 0, none⟩) us.length cb) us.length (us.map (Value.int .i64)) → WList W W0.heap.size L vs ws → (ws ++ goL xs.length (aheadL xs) m us u).length ≤ 1000 →
      Calls Try.prog 71 #[.slice ao xs.length ca, .slice (some ⟨gb, 0, none⟩) us.length cb, .int .i64 u, L] W (WPost W0.heap.size L W (ws ++ goL xs.length (aheadL xs) m us u)))
    (hn : us.length + (m + 1) = xs.length) (hu : ∃ y : Fin 16, u = (y.val : Int) ∧ y.val < 2 ^ xs.length) (hB : Below W0.heap.size W0 W)
    (ho : W.ownsRow W0.heap.size 3 1 (.slice (some ⟨gb, 0, none⟩) us.length cb) us.length (us.map (Value.int .i64))) (hL : WList W W0.heap.size L vs ws) (hlen : (ws ++ goL xs.length (aheadL xs) (m + 1) us u).length ≤ 1000) :
    Calls Try.prog 71 #[.slice ao xs.length ca, .slice (some ⟨gb, 0, none⟩) us.length cb, .int .i64 u, L] W (WPost W0.heap.size L W (ws ++ goL xs.length (aheadL xs) (m + 1) us u)) := by
  have R := Rl.of hrel
  have h4 := R.four
  obtain ⟨i0, hi, hz0, hz1, hz2⟩ := info_parts Try.info3
  have hne : ((us.length : Int) == (xs.length : Int)) = false := beq_eq_false_iff_ne.2 (by omega)
  have hul : us.length ≤ 3 := by omega
  have hGW := hB.size
  have HT := Lib.hid (l1Turned_any ao ca xs W hrel (hx0.below hB))
  have HH := Lib.hid (And.intro IH (And.intro hn (And.intro hu (And.intro hlen (And.intro hB (And.intro ho (And.intro hL R)))))))
  clear IH hn hu hlen hB ho hL R hrel hx0
  go_enter Try.func71, Try.ntmps71
  go_wp2_with fail
  refine HT.out.mono ?_
  rintro e w1 ⟨v, rfl, hot, hb1⟩
  have hot : w1.ownsRow W.heap.size 3 1 v (turnL xs).length ((turnL xs).map (Value.int .i64)) := by rw [HH.out.2.2.2.2.2.2.2.turn.len]; exact hot
  have htl : (turnL xs).length = xs.length := HH.out.2.2.2.2.2.2.2.turn.len
  obtain ⟨bo, cbk, rfl, _⟩ := row_rd hot
  have hL1 := HH.out.2.2.2.2.2.2.1.below hb1
  have hs1 := hb1.size
  have HF := Lib.hid (And.intro hot (And.intro hL1 (And.intro (show Below W0.heap.size W0 w1 from HH.out.2.2.2.2.1.trans (hb1.mono hGW)) (And.intro (own_keep HH.out.2.2.2.2.2.1 hb1 (fun q hq => (HH.out.2.2.2.2.2.1.lt q hq).2)) (And.intro (fun q hq => (HH.out.2.2.2.2.2.2.1.row.lt q hq).1) htl)))))
  have HB1 := Lib.hid hb1
  rw [htl]
  clear hot hL1 hb1 HT htl
  go_wp2
  go_loopw [3, 10] (fun Lv i wr => ∃ (k : Nat) (vs' : List Value), k ≤ xs.length ∧ i = .int .i64 k ∧ WInv W0 w1 wr W0.heap.size L Lv vs' (ws ++ goTo xs.length (aheadL xs) m us u k))
    (fun _ i _ => xs.length - (intOf i).toNat)
  case atStart => exact ⟨0, vs, Nat.zero_le _, rfl, ⟨by rw [show goTo xs.length (aheadL xs) m us u 0 = [] from rfl, List.append_nil]; exact HF.out.2.1, ⟨rfl, rfl, rfl, Nat.le_refl _, fun _ _ _ => rfl⟩, .inl rfl⟩⟩
  case round =>
    obtain ⟨k, vs', hk, rfl, hI⟩ := hrel
    by_cases hlt : k < xs.length
    · have hotr := HF.out.1.kept hI.grew (apartL HF.out.1 HF.out.2.1.row)
      obtain ⟨_, _, e, hrb⟩ := row_rd hotr
      cases e
      obtain ⟨b2, off2, y, hyk, rfl, hbl2, hc2⟩ := hrb.get k (by rw [HF.out.2.2.2.2.2]; exact hlt)
      rw [rowB hyk] at hc2
      have hj1 : ((k : Nat) : Int) < (xs.length : Int) := by omega
      have hpw := pt_wrapO k (by omega)
      have hb0 : (bits .and .i64 (u / 2 ^ k) 1 == 0) = !hasB u k := by
        obtain ⟨y, rfl, _⟩ := HH.out.2.2.1
        exact b_bit0 y ⟨k, by omega⟩
      have hpp : (bits .andNot .i64 (bits .andNot .i64 (rowAt (turnL xs) k) (pt k)) u == 0) = partB (rowAt (aheadL xs) k) u := by
        rw [ahead_row HH.out.2.2.2.2.2.2.2 k hlt]
        rfl
      have HI := Lib.hid hI
      obtain ⟨z, hz⟩ : ∃ z, rowAt (turnL xs) k = z := ⟨_, rfl⟩
      rw [hz] at hc2 hpp
      clear hI hotr hrb hyk hz
      cases hz : hasB u k with
      | true =>
        rw [hz] at hb0
        have hf : freeB (aheadL xs) u k = false := by unfold freeB; rw [hz]; rfl
        have HG := Lib.hid (goTo_no3 (n := xs.length) (m := m) (b := us) hf)
        clear hpp hz hf
        go_wp2
        go_quiet (fail)
        go_wp2
        go_roundw
        case rel => exact ⟨k + 1, vs', by omega, by go_num, by rw [HG.out]; exact HI.out.dn (Dn.drewN _ _)⟩
        case measure => simp [intOf]; omega
      | false =>
        rw [hz] at hb0
        cases hp : partB (rowAt (aheadL xs) k) u with
        | false =>
          rw [hp] at hpp
          have hf : freeB (aheadL xs) u k = false := by unfold freeB; rw [hp, Bool.and_false]
          have HG := Lib.hid (goTo_no3 (n := xs.length) (m := m) (b := us) hf)
          clear hz hp hf
          go_wp2
          go_quiet (fail)
          go_wp2
          go_roundw
          case rel => exact ⟨k + 1, vs', by omega, by go_num, by rw [HG.out]; exact HI.out.dn (Dn.drewN _ _)⟩
          case measure => simp [intOf]; omega
        | true =>
          rw [hp] at hpp
          have hf : freeB (aheadL xs) u k = true := by unfold freeB; rw [hz, hp]; rfl
          have HG := Lib.hid hf
          clear hz hp hf
          have hor : wr.ownsRow W0.heap.size 3 1 (.slice (some ⟨gb, 0, none⟩) us.length cb) us.length (us.map (Value.int .i64)) := HF.out.2.2.2.1.kept HI.out.grew (apartL HF.out.2.2.2.1 HF.out.2.1.row)
          have hwrs : W0.heap.size ≤ wr.heap.size := Nat.le_trans (Nat.le_trans hGW hs1) HI.out.grew.size
          go_wp2
          go_quiet (fail)
          go_wp2
          have HI2 := Lib.hid (HI.out.dn (Dn.drewN wr nq))
          have hor2 : (wr.drewN nq).ownsRow W0.heap.size 3 1 (.slice (some ⟨gb, 0, none⟩) us.length cb) us.length (us.map (Value.int .i64)) := hor
          have hwq : W0.heap.size ≤ (wr.drewN nq).heap.size := hwrs
          obtain ⟨wq, hq⟩ : ∃ wq, wr.drewN nq = wq := ⟨_, rfl⟩
          rw [hq] at HI2 hor2 hwq ⊢
          clear hq hor hwrs HI hc2 hbl2 hb0 hpp
          have hcn : ∀ W', Below wq.heap.size wq W' → ∀ j x, (us.map (Value.int .i64))[j]? = some x → W'.cell? ((⟨gb, 0, none⟩ : Addr).add j) = some x := fun W' hb j x hx => by
            have h1 := hor2.cells (g := gb) rfl j x hx
            rw [← h1]
            exact World.cell?_of_block (hb.block _ (World.block_lt_of_cell? wq _ h1))
          have HN := Lib.hid hcn
          have HLB := Lib.hid (show ((wq.drew.alloc (.cells #[] 3)).alloc (.cells #[.int .i64 (k : Int)] 3)).heap[wq.heap.size + 1]? = some (.cells #[.int .i64 (k : Int)] 3 (0, 0)) from by
            have h := World.alloc_heap_new (wq.drew.alloc (.cells #[] 3)) (.cells #[.int .i64 (k : Int)] 3)
            rw [World.size_alloc] at h
            exact h)
          have HLC := Lib.hid (show ((wq.drew.alloc (.cells #[.int .i64 (k : Int)] 3)).alloc (.cells #[] 3)).heap[wq.heap.size]? = some (.cells #[.int .i64 (k : Int)] 3 (0, 0)) from
            (Below.heap_alloc (wq.drew.alloc (.cells #[.int .i64 (k : Int)] 3)) (.cells #[] 3) wq.heap.size (by simp)).trans (World.alloc_heap_new wq.drew (.cells #[.int .i64 (k : Int)] 3)))
          clear hcn
          have HRC := Lib.hid (And.intro (show ((wq.drew.alloc (.cells #[.int .i64 (k : Int)] 3)).alloc (.cells #[] 3)).ownsRow wq.heap.size 3 1 (.slice (some ⟨wq.heap.size + 1, 0, none⟩) 0 0) 0 [] from by have h := row_lit0 (wq.drew.alloc (.cells #[.int .i64 (k : Int)] 3)); rw [World.size_alloc] at h; exact own_mono h (Nat.le_succ _))
            (And.intro (show Below wq.heap.size wq ((wq.drew.alloc (.cells #[.int .i64 (k : Int)] 3)).alloc (.cells #[] 3)) from (((Below.refl wq.heap.size wq).drew).alloc (Nat.le_refl _) _).alloc (by rw [World.size_alloc]; exact Nat.le_succ _) _)
              (show wq.heap.size ≤ ((wq.drew.alloc (.cells #[.int .i64 (k : Int)] 3)).alloc (.cells #[] 3)).heap.size from by rw [World.size_alloc, World.size_alloc]; show wq.heap.size ≤ wq.heap.size + 1 + 1; omega)))
          go_region_held_law (fun _ => True) (trivial) (first
            | (refine step_append_own rfl (.tmp 46) (.tmp 47) 23 rfl wq.heap.size 3 i0 (.int .i64 0) 1 8 Try.underlying23 hi hz0 hz1 hz2 rfl (by decide) _ _ _ rfl (row_lit0 wq.drew) ⟨gb, 0, none⟩ us.length cb (us.map (Value.int .i64)) rfl (by simp) (HN.out _ (((Below.refl wq.heap.size wq).drew).alloc (Nat.le_refl _) _)) (by simp [Value.oneCell']) (by unfold maxLen; omega) (by omega) (by simp) ?_; intro v2 w2 hown2 hgrow2; rw [Nat.zero_add, List.nil_append] at hown2; have hB2 : Below wq.heap.size wq w2 := (((Below.refl wq.heap.size wq).drew).alloc (Nat.le_refl _) _).grown hgrow2 (by simp) (fun q hq => by have h := Option.some.inj (show some _ = some q from hq); rw [← h]; first | exact Nat.le_refl _ | simp); have hlo2 : ∀ q, v2.ownBlock = some q → wq.heap.size ≤ q := fun q hq => (hown2.lt q hq).1; replace hown2 := own_mono hown2 hwq)
            | (refine step_append_own rfl (.tmp 46) (.tmp 47) 23 rfl wq.heap.size 3 i0 (.int .i64 0) 1 8 Try.underlying23 hi hz0 hz1 hz2 rfl (by decide) _ _ _ rfl ((row_lit0 wq.drew).alloc _) ⟨gb, 0, none⟩ us.length cb (us.map (Value.int .i64)) rfl (by simp) (HN.out _ ((((Below.refl wq.heap.size wq).drew).alloc (Nat.le_refl _) _).alloc (by simp) _)) (by simp [Value.oneCell']) (by unfold maxLen; omega) (by omega) (by simp; omega) ?_; intro v2 w2 hown2 hgrow2; rw [Nat.zero_add, List.nil_append] at hown2; have hB2 : Below wq.heap.size wq w2 := ((((Below.refl wq.heap.size wq).drew).alloc (Nat.le_refl _) _).alloc (by simp) _).grown hgrow2 (by simp; omega) (fun q hq => by have h := Option.some.inj (show some _ = some q from hq); rw [← h]; first | exact Nat.le_refl _ | simp); have hlo2 : ∀ q, v2.ownBlock = some q → wq.heap.size ≤ q := fun q hq => (hown2.lt q hq).1; replace hown2 := own_mono hown2 hwq; have hlit := lit_kept hgrow2 HLB.out (fun e => by have h := Option.some.inj (show some (wq.heap.size + 1) = some wq.heap.size from e); omega))
            | (refine step_append_own rfl (.tmp 46) (.tmp 47) 23 rfl wq.heap.size 3 i0 (.int .i64 0) 1 8 Try.underlying23 hi hz0 hz1 hz2 rfl (by decide) _ _ _ rfl HRC.out.1 ⟨gb, 0, none⟩ us.length cb (us.map (Value.int .i64)) rfl (by simp) (HN.out _ HRC.out.2.1) (by simp [Value.oneCell']) (by unfold maxLen; omega) (by omega) HRC.out.2.2 ?_; intro v2 w2 hown2 hgrow2; rw [Nat.zero_add, List.nil_append] at hown2; have hB2 : Below wq.heap.size wq w2 := HRC.out.2.1.grown hgrow2 HRC.out.2.2 (fun q hq => by have h := Option.some.inj (show some (wq.heap.size + 1) = some q from hq); rw [← h]; exact Nat.le_succ _); have hlo2 : ∀ q, v2.ownBlock = some q → wq.heap.size ≤ q := fun q hq => (hown2.lt q hq).1; replace hown2 := own_mono hown2 hwq; have hlit := lit_kept hgrow2 HLC.out (fun e => by have h := Option.some.inj (show some wq.heap.size = some (wq.heap.size + 1) from e); omega))
            | (refine step_append_own rfl (.tmp 48) (.tmp 50) 23 rfl W0.heap.size 3 i0 (.int .i64 0) 1 8 Try.underlying23 hi hz0 hz1 hz2 rfl (by decide) _ _ _ rfl (hown2.alloc _) ⟨w2.heap.size, 0, none⟩ 1 1 [_] rfl rfl (cell_one_new _ _ _) (by simp [Value.oneCell']) (by unfold maxLen; omega) (by omega) (Nat.le_trans hwq (Nat.le_trans hB2.size (by simp))) ?_; intro v3 w3 hown3 hgrow3; have hB3 : Below wq.heap.size wq w3 := (hB2.alloc hB2.size _).grown hgrow3 (Nat.le_trans hB2.size (by simp)) (fun q hq => hlo2 q hq); obtain ⟨g3, c3, rfl⟩ := form_one hown3 (by omega); have HC := Lib.hid (ways_call h4 HH.out.1 HH.out.2.1 HH.out.2.2.1 hlt HG.out HH.out.2.2.2.1 HF.out.2.2.1 HF.out.2.2.2.2.1 HI2.out hB3 hown3); clear hown3 hgrow3 hB3)
            | (refine step_append_own rfl (.tmp 48) (.tmp 50) 23 rfl W0.heap.size 3 i0 (.int .i64 0) 1 8 Try.underlying23 hi hz0 hz1 hz2 rfl (by decide) _ _ _ rfl hown2 ⟨wq.heap.size + 1, 0, none⟩ 1 1 [_] rfl rfl hlit (by simp [Value.oneCell']) (by unfold maxLen; omega) (by omega) (Nat.le_trans hwq hB2.size) ?_; intro v3 w3 hown3 hgrow3; have hB3 : Below wq.heap.size wq w3 := hB2.grown hgrow3 hB2.size (fun q hq => hlo2 q hq); obtain ⟨g3, c3, rfl⟩ := form_one hown3 (by omega); have HC := Lib.hid (ways_call h4 HH.out.1 HH.out.2.1 HH.out.2.2.1 hlt HG.out HH.out.2.2.2.1 HF.out.2.2.1 HF.out.2.2.2.2.1 HI2.out hB3 hown3); clear hown3 hgrow3 hB3)
            | (refine step_append_own rfl (.tmp 48) (.tmp 50) 23 rfl W0.heap.size 3 i0 (.int .i64 0) 1 8 Try.underlying23 hi hz0 hz1 hz2 rfl (by decide) _ _ _ rfl hown2 ⟨wq.heap.size, 0, none⟩ 1 1 [_] rfl rfl hlit (by simp [Value.oneCell']) (by unfold maxLen; omega) (by omega) (Nat.le_trans hwq hB2.size) ?_; intro v3 w3 hown3 hgrow3; have hB3 : Below wq.heap.size wq w3 := hB2.grown hgrow3 hB2.size (fun q hq => hlo2 q hq); obtain ⟨g3, c3, rfl⟩ := form_one hown3 (by omega); have HC := Lib.hid (ways_call h4 HH.out.1 HH.out.2.1 HH.out.2.2.1 hlt HG.out HH.out.2.2.2.1 HF.out.2.2.1 HF.out.2.2.2.2.1 HI2.out hB3 hown3); clear hown3 hgrow3 hB3)
            | ((with_reducible refine HC.out.mono ?_); rintro e w4 ⟨L', vs2, rfl, hI4⟩))
          all_goals
            have HW := Lib.hid hI4
            clear hI4
            go_wp2
            go_roundw
            case rel => exact ⟨k + 1, vs2, by omega, by go_num, HW.out⟩
            case measure => simp [intOf]; omega
    · obtain rfl : k = xs.length := by omega
      have HW := Lib.hid hI
      clear hI
      go_wp2
      go_ret
      have hI := HW.out
      have hW1 := HB1.out
      exact ⟨_, vs', rfl, by rw [← goTo_all]; exact hI.list, ⟨hI.grew.os.trans hW1.os, hI.grew.tape.trans hW1.tape, hI.grew.output.trans hW1.output, Nat.le_trans hW1.size hI.grew.size, fun q hq hne => (hI.grew.block q (Nat.lt_of_lt_of_le hq hW1.size) hne).trans (hW1.block q hq)⟩,
        hI.own.elim .inl (fun e => .inr (fun q hq => Nat.le_trans hW1.size (e q hq)))⟩

/-- all ways that begin with some points, put behind a list -/
theorem l5Ways_any {W0 : World} {ao : Option Addr} {ca : Nat} {xs : List Int} (hrel : relIn xs = true) (hx0 : Rd W0 ao xs) :
    ∀ (m : Nat) (us : List Int) (u : Int) (gb cb : Nat) (L : Value) (vs : List Value) (ws : List (List Int)) (W : World), us.length + m = xs.length → (∃ y : Fin 16, u = (y.val : Int) ∧ y.val < 2 ^ xs.length) → Below W0.heap.size W0 W →
      W.ownsRow W0.heap.size 3 1 (.slice (some ⟨gb, 0, none⟩) us.length cb) us.length (us.map (Value.int .i64)) → WList W W0.heap.size L vs ws → (ws ++ goL xs.length (aheadL xs) m us u).length ≤ 1000 →
      Calls Try.prog 71 #[.slice ao xs.length ca, .slice (some ⟨gb, 0, none⟩) us.length cb, .int .i64 u, L] W (WPost W0.heap.size L W (ws ++ goL xs.length (aheadL xs) m us u))
  | 0, us, u, gb, cb, L, vs, ws, W, hn, _, hB, ho, hL, hlen => l5Ways_leaf (by omega) ho hL hB.size (by
      rw [List.length_append] at hlen
      have := hL.len
      omega)
  | m + 1, us, u, gb, cb, L, vs, ws, W, hn, hu, hB, ho, hL, hlen => l5Ways_step hrel hx0 (l5Ways_any hrel hx0 m) hn hu hB ho hL hlen
end Go.Proofs.Ytchbbflpckaddaa

namespace Go.Proofs.Ytchbbflpckaddaa
open Go.RowKit Go.Shelf
attribute [local go_sem] Oper.semAt_some

/-- a list copied -/
theorem clone_any (v : Value) (us : List Int) (w : World) (base : Nat) (hne : 1 ≤ us.length) (hl : us.length ≤ 4) (ho : w.ownsRow base 3 1 v us.length (us.map (Value.int .i64))) :
    Calls Try.prog 90 #[v] w fun e w' => ∃ v', e = .returned v' ∧ w'.ownsRow w.heap.size 3 1 v' us.length (us.map (Value.int .i64)) ∧ Below w.heap.size w w' := by
  obtain ⟨i0, hi, hz0, hz1, hz2⟩ := info_parts Try.info3
  rcases ho.2 with ⟨rfl, h0⟩ | ⟨g, cap, cur, rfl, hb, hg, hnc, hcm, hcs, ht⟩
  · omega
  · have hce := ho.cells (g := g) rfl
    have hlt : g < w.heap.size := (Array.getElem?_eq_some_iff.1 hg).1
    have hcn : ∀ j u, (us.map (Value.int .i64))[j]? = some u → (w.alloc (.cells #[] 3)).cell? ((⟨g, 0, none⟩ : Addr).add j) = some u := fun j u hu => by
      have h1 := hce j u hu
      rw [← h1]
      exact World.cell?_of_block (Below.heap_alloc w _ _ (World.block_lt_of_cell? w _ h1))
    have HN := Lib.hid hcn
    have hE : ∀ w, Sem.run Try.prog (binOp .eql 23 (.slice (some ⟨g, 0, none⟩) us.length cap) (.slice none 0 0)) w = .ok (.bool false) w := fun w => by
      simp only [binOp]
      simp [run_equal_slice_nil w _ _ (some ⟨g, 0, none⟩) us.length cap Try.underlying23]
    clear hce hg hnc hcs ht ho hcn
    go_enter Try.func90, Try.ntmps90
    go_wp2_with (at_builtin; refine wpList_append_own _ rfl (.tmp 5) (.tmp 6) 23 rfl w.heap.size 3 i0 (.int .i64 0) 1 8 Try.underlying23 hi hz0 hz1 hz2 rfl (by decide) _ _ _ rfl (row_lit0 w) ⟨g, 0, none⟩ us.length cap (us.map (Value.int .i64)) rfl (by simp) HN.out (by simp [Value.oneCell']) (by unfold maxLen; omega) (by omega) (by simp) ?_)
    intro v' w1 hown hgrow _
    have hB : Below w.heap.size w w1 := (below_one w _).grown hgrow (by simp) (by intro k hk; simp [Value.ownBlock] at hk; omega)
    clear hgrow
    go_wp2
    go_ret
    exact ⟨v', rfl, hown, hB⟩

/-- what the closure needs: the order, the points ahead, the yield, itself -/
structure Ctx (W : World) (Bo By Ba Bg l : Nat) (xs bk : List Int) : Prop where
  o : OrdAt W Bo xs
  a : RelAt W Ba bk
  y : Boxed W By 25 (.func (.yield l) #[] #[])
  g : Boxed W Bg 89 (.func (.func 89) #[] #[.pointer (some ⟨Bo, 0, none⟩), .pointer (some ⟨By, 0, none⟩), .pointer (some ⟨Ba, 0, none⟩), .pointer (some ⟨Bg, 0, none⟩)])

/-- all cells lie as they lay, but those of block X and of a list's own block -/
def KeepX (X : Nat) (v : Value) (W W' : World) : Prop :=
  W.heap.size ≤ W'.heap.size ∧ ∀ b o, b ≠ X → some b ≠ v.ownBlock → W.heap[b]? = some o → o.isCells = true → W'.heap[b]? = some o
theorem KeepX.refl (X : Nat) (v : Value) (W : World) : KeepX X v W W := ⟨Nat.le_refl _, fun _ _ _ _ h _ => h⟩
theorem KeepX.trans {X : Nat} {v : Value} {A B C : World} (h : KeepX X v A B) (k : KeepX X v B C) : KeepX X v A C :=
  ⟨Nat.le_trans h.1 k.1, fun b _ hX hv ho hc => k.2 b _ hX hv (h.2 b _ hX hv ho hc) hc⟩
theorem KeepX.below {X : Nat} {v : Value} {A B : World} (h : Below A.heap.size A B) : KeepX X v A B :=
  ⟨h.size, fun b _ _ _ ho _ => (h.block b (Array.getElem?_eq_some_iff.1 ho).1).trans ho⟩
theorem KeepX.drew {X : Nat} {v : Value} (A : World) : KeepX X v A A.drew := ⟨Nat.le_refl _, fun _ _ _ _ h _ => h⟩
theorem keep_row {X : Nat} {u v : Value} {A B : World} {base : Nat} {e : TypeId} {n : Nat} {us : List Value} (h : KeepX X u A B) (ho : A.ownsRow base e 1 v n us) (hX : ∀ q, v.ownBlock = some q → q ≠ X) (hv : ∀ q, v.ownBlock = some q → some q ≠ u.ownBlock) :
    B.ownsRow base e 1 v n us := by
  refine ⟨ho.1, ?_⟩
  rcases ho.2 with h2 | ⟨g, cap, cur, rfl, hb, hg, hr⟩
  · exact .inl h2
  · exact .inr ⟨g, cap, cur, rfl, hb, h.2 g _ (hX g rfl) (hv g rfl) hg rfl, hr⟩
theorem Ctx.keep {W W' : World} {Bo By Ba Bg l X G : Nat} {xs bk : List Int} {v : Value} (h : Ctx W Bo By Ba Bg l xs bk) (k : KeepX X v W W') (hv : ∀ q, v.ownBlock = some q → G ≤ q)
    (h1 : Bo ≠ X ∧ By ≠ X ∧ Ba ≠ X ∧ Bg ≠ X) (h2 : Bo < G ∧ By < G ∧ Ba < G ∧ Bg < G) : Ctx W' Bo By Ba Bg l xs bk := by
  have hne : ∀ b, b < G → some b ≠ v.ownBlock := fun b hb e => by have := hv b e.symm; omega
  exact ⟨k.2 _ _ h1.1 (hne _ h2.1) h.o rfl, k.2 _ _ h1.2.2.1 (hne _ h2.2.2.1) h.a rfl, k.2 _ _ h1.2.1 (hne _ h2.2.1) h.y rfl, k.2 _ _ h1.2.2.2 (hne _ h2.2.2.2) h.g rfl⟩

/-- what the range's body does with a way -/
def YieldsW (l X B0 n : Nat) (ws : List (List Int)) (J Jx : List (List Int) → World → Prop) : Prop :=
  ∀ pre x vx W, (∃ rest, ws = pre ++ x :: rest) → J pre W → x.length = n → W.ownsRow B0 3 1 vx n (x.map (Value.int .i64)) →
    ∀ m, YieldAt Fence.wide m Try.prog l #[vx] W fun e W' => ∃ b : Bool, e = .returned (.bool b) ∧ KeepX X (.slice none 0 0) W W' ∧ (b = true → J (pre ++ [x]) W') ∧ (b = false → Jx (pre ++ [x]) W')
theorem keepX_nil {X : Nat} {v : Value} {A B : World} (h : KeepX X (.slice none 0 0) A B) : KeepX X v A B := ⟨h.1, fun b _ hX _ ho hc => h.2 b _ hX (by simp [Value.ownBlock]) ho hc⟩

def GoPost (X G : Nat) (J Jx : List (List Int) → World → Prop) (done : List (List Int)) (v : Value) (us : List Int) (W : World) (e : Ending) (W' : World) : Prop :=
  ∃ b : Bool, e = .returned (.bool b) ∧ KeepX X v W W' ∧ W'.ownsRow G 3 1 v us.length (us.map (Value.int .i64)) ∧ (b = true → J done W') ∧ (b = false → ∃ p, Jx p W')

theorem leaf_yield {l X B0 G Bo By Ba Bg : Nat} {xs bk us : List Int} {ws pre : List (List Int)} {J Jx : List (List Int) → World → Prop} {v : Value} {W w2 : World} {C : Prop} {v2 : Value}
    (H : C ∧ (∀ vx W, (∃ rest, ws = pre ++ us :: rest) → J pre W → us.length = xs.length → W.ownsRow B0 3 1 vx xs.length (us.map (Value.int .i64)) →
      ∀ m, YieldAt Fence.wide m Try.prog l #[vx] W fun e W' => ∃ b : Bool, e = .returned (.bool b) ∧ KeepX X (.slice none 0 0) W W' ∧ (b = true → J (pre ++ [us]) W') ∧ (b = false → Jx (pre ++ [us]) W')) ∧
      (∀ p A B, J p A → Below B0 A B → J p B) ∧ (∃ rest, ws = pre ++ us :: rest) ∧ J pre W ∧ W.ownsRow G 3 1 v us.length (us.map (Value.int .i64)) ∧ Ctx W Bo By Ba Bg l xs bk ∧ X < B0 ∧ B0 ≤ G ∧ G ≤ W.heap.size ∧ us.length = xs.length)
    (o2 : w2.ownsRow W.heap.size 3 1 v2 us.length (us.map (Value.int .i64))) (b2 : Below W.heap.size W.drew w2) (m : Nat) :
    YieldAt Fence.wide m Try.prog l #[v2] w2 fun e W' => ∃ b : Bool, e = .returned (.bool b) ∧ KeepX X v W W' ∧ W'.ownsRow G 3 1 v us.length (us.map (Value.int .i64)) ∧ (b = true → J (pre ++ [us]) W') ∧ (b = false → Jx (pre ++ [us]) W') := by
  obtain ⟨_, hY, hJ, hw, hp, ho, hc, hX, hG, hGW, hn⟩ := H
  have B2 : Below W.heap.size W w2 := ((Below.refl W.heap.size W).drew).trans b2
  have h := hY v2 w2 hw (hJ pre W w2 hp (B2.mono (by omega))) hn (by rw [← hn]; exact own_mono o2 (by omega)) m
  obtain ⟨fn, tmps, assign, body, hy, hR⟩ := h
  refine ⟨fn, tmps, assign, body, hy, hR.mono ?_⟩
  rintro e W' ⟨b, rfl, h0, h1, h2⟩
  have hown : ∀ q, v.ownBlock = some q → q ≠ X := fun q hq => by have := (ho.lt q hq).1; omega
  have o3 : w2.ownsRow G 3 1 v us.length (us.map (Value.int .i64)) := own_keep ho B2 (fun q hq => (ho.lt q hq).2)
  exact ⟨b, rfl, (KeepX.below B2).trans (keepX_nil h0), keep_row h0 o3 hown (fun q _ => by simp [Value.ownBlock]), h1, h2⟩

set_option maxRecDepth 100000 in
set_option maxHeartbeats 8000000 in
theorem goOn_leaf {l X B0 G Bo By Ba Bg : Nat} {xs bk : List Int} {ws : List (List Int)} {J Jx : List (List Int) → World → Prop} (R : Rl xs.length xs)
    (hJ : ∀ p A B, J p A → Below B0 A B → J p B) (hY : YieldsW l X B0 xs.length ws J Jx) (hX : X < B0) (hG : B0 ≤ G)
    (us : List Int) (u : Int) (v : Value) (W : World) (pre : List (List Int)) (hn : us.length = xs.length) (hc : Ctx W Bo By Ba Bg l xs bk)
    (ho : W.ownsRow G 3 1 v us.length (us.map (Value.int .i64))) (hp : J pre W) (hw : ∃ rest, ws = pre ++ us :: rest) (hGW : G ≤ W.heap.size) :
    Calls Try.prog 89 #[v, .int .i64 u, .pointer (some ⟨Bo, 0, none⟩), .pointer (some ⟨By, 0, none⟩), .pointer (some ⟨Ba, 0, none⟩), .pointer (some ⟨Bg, 0, none⟩)] W (GoPost X G J Jx (pre ++ [us]) v us W) := by
  have h1 := R.one
  have h4 := R.four
  refine (callsIn_wide (n := 6)).1 ?_
  have hmo : Try.prog.follows .mixedOrders = true := by kernel_rfl
  have hcl := fun W (h : W.ownsRow G 3 1 v us.length (us.map (Value.int .i64))) => clone_any v us W G (by omega) (by omega) h
  obtain ⟨ao, cap, rfl, _⟩ := row_rd ho
  have c0 := hc.o.cell0
  have cy := hc.y.cell
  have hall := hY pre us
  have hn' : (us.length : Int) = (xs.length : Int) := by omega
  have H := Lib.hid (And.intro hcl (And.intro hall (And.intro hJ (And.intro hw (And.intro hp (And.intro ho (And.intro hc (And.intro hX (And.intro hG (And.intro hGW hn))))))))))
  clear hcl hall hJ hY hw hp ho hc R hX hG hGW hn
  refine callsIn_of_wp Try.func89 rfl trivial ?_ rfl
  simp only [Try.ntmps89, List.size_toArray, List.length_cons, List.length_nil, Nat.reduceAdd, Nat.reduceSub, Array.replicate_succ, Array.replicate_zero, List.push_toArray, List.append_toArray, List.nil_append, List.cons_append]
  gi_wp2
  gi_region_with_o (first
    | (refine ⟨trivial, ?_⟩; gi_at_call 90; refine (callsIn_wide.2 (H.out.1 W.drew H.out.2.2.2.2.2.1)).mono ?_; rintro e w2 ⟨v2, rfl, o2, b2⟩; have cy2 : w2.cell? ⟨By, 0, none⟩ = some (.func (.yield l) #[] #[]) := Boxed.cell ((b2.block By H.out.2.2.2.2.2.2.1.y.lt).trans H.out.2.2.2.2.2.2.1.y); obtain ⟨fn, tmps, assign, body, hy, hR⟩ := leaf_yield H.out o2 b2 5)
    | (refine hR.mono ?_; rintro e w3 ⟨b, rfl, hb⟩))
  all_goals
    gi_wp2
    go_ret
    exact ⟨b, rfl, hb.1, hb.2.1, hb.2.2.1, fun h => ⟨_, hb.2.2.2 h⟩⟩

theorem cf_go (args : Array Value) (w : World) : Sem.run Try.prog (callFunc 89 args) w = .ok (.enter 89 args) w := by kernel_rfl
theorem free_no1 {bk : List Int} {u : Int} {k : Nat} (h : hasB u k = true) : freeB bk u k = false := by unfold freeB; rw [h]; rfl
theorem free_no2 {bk : List Int} {u : Int} {k : Nat} (h : partB (rowAt bk k) u = false) : freeB bk u k = false := by unfold freeB; rw [h, Bool.and_false]
theorem free_yes {bk : List Int} {u : Int} {k : Nat} (h : hasB u k = false) (h2 : partB (rowAt bk k) u = true) : freeB bk u k = true := by unfold freeB; rw [h, h2]; rfl
theorem goTo_no {n : Nat} {bk : List Int} {m : Nat} {b : List Int} {u : Int} {k : Nat} (h : freeB bk u k = false) : goTo n bk m b u (k + 1) = goTo n bk m b u k := by
  rw [goTo_succ, h]
  simp
theorem goTo_yes {n : Nat} {bk : List Int} {m : Nat} {b : List Int} {u : Int} {k : Nat} (h : freeB bk u k = true) : goTo n bk m b u (k + 1) = goTo n bk m b u k ++ goL n bk m (b ++ [(k : Int)]) (bits .or .i64 u (pt k)) := by
  rw [goTo_succ, h, if_pos rfl]

theorem keepX_push {X : Nat} {v : Value} {w w1 : World} (o : Obj) (hg : (w.drew.alloc o).grownBy w1 v.ownBlock) : KeepX X v w w1 := by
  have h1 : w.heap.size + 1 ≤ w1.heap.size := by have := hg.size; simp at this; exact this
  refine ⟨by omega, fun b o' _ hv ho _ => ?_⟩
  have hlt := (Array.getElem?_eq_some_iff.1 ho).1
  rw [hg.block b (by simp; omega) hv]
  exact (Below.heap_alloc w.drew o b hlt).trans ho
/-- behind the call with the longer list, the shorter one is as it was -/
theorem grew_back {X : Nat} {w w1 w2 : World} {v v' : Value} {us : List Int} {x : Int} {G : Nat} {o : Obj} (ho : w.ownsRow G 3 1 v us.length (us.map (Value.int .i64)))
    (hgrow : (w.drew.alloc o).grownBy w1 v.ownBlock) (hgr : Grew (w.drew.alloc o) w1 v v' us.length) (hk : KeepX X v' w1 w2) (ho2 : w2.ownsRow G 3 1 v' (us ++ [x]).length ((us ++ [x]).map (Value.int .i64))) (hX : ∀ q, v.ownBlock = some q → q ≠ X) :
    w2.ownsRow G 3 1 v us.length (us.map (Value.int .i64)) ∧ KeepX X v w w2 := by
  have k1 : KeepX X v w w1 := keepX_push o hgrow
  rcases hgr with ⟨g, cap, rfl, rfl⟩ | ⟨hv', hg⟩
  · rw [List.length_append, List.map_append] at ho2
    exact ⟨own_back ho2, k1.trans hk⟩
  · have hvs : v'.ownBlock = some (w.heap.size + 1) := by rw [hv']; simp
    have o1 : w1.ownsRow G 3 1 v us.length (us.map (Value.int .i64)) := by
      have h0 : w.drew.ownsRow G 3 1 v us.length (us.map (Value.int .i64)) := ho
      refine (h0.alloc o).kept hg ?_
      cases v.ownBlock with
      | none => exact .inl rfl
      | some q => exact .inr (by simp)
    refine ⟨keep_row hk o1 hX (fun q hq => by rw [hvs]; intro e; cases e; have := (ho.lt _ hq).2; omega), Nat.le_trans k1.1 hk.1, fun b o' hbX _ hbo hcell => ?_⟩
    have hlt := (Array.getElem?_eq_some_iff.1 hbo).1
    have h1 : w1.heap[b]? = some o' := by
      rw [hg.block b (by simp; omega) (by simp)]
      exact (Below.heap_alloc w.drew o b hlt).trans hbo
    exact hk.2 b o' hbX (by rw [hvs]; intro e; cases e; omega) h1 hcell

/-- the call in a round -/
theorem step_call {l X B0 G Bo By Ba Bg m k n : Nat} {xs bk us : List Int} {u : Int} {ws pre : List (List Int)} {J Jx : List (List Int) → World → Prop} {v v' : Value} {W wr w1 : World} {o : Obj}
    (IH : ∀ (us : List Int) (u : Int) (v : Value) (W : World) (pre : List (List Int)), us.length + m = n → Ctx W Bo By Ba Bg l xs bk →
      W.ownsRow G 3 1 v us.length (us.map (Value.int .i64)) → J pre W → (∃ rest, ws = pre ++ goL n bk m us u ++ rest) → G ≤ W.heap.size →
      Calls Try.prog 89 #[v, .int .i64 u, .pointer (some ⟨Bo, 0, none⟩), .pointer (some ⟨By, 0, none⟩), .pointer (some ⟨Ba, 0, none⟩), .pointer (some ⟨Bg, 0, none⟩)] W (GoPost X G J Jx (pre ++ goL n bk m us u) v us W))
    (hJ : ∀ p A B, J p A → Below B0 A B → J p B) (hw : ∃ rest, ws = pre ++ goL n bk (m + 1) us u ++ rest) (hX : X < B0) (hG : B0 ≤ G)
    (hBX : Bo ≠ X ∧ By ≠ X ∧ Ba ≠ X ∧ Bg ≠ X) (hBG : Bo < G ∧ By < G ∧ Ba < G ∧ Bg < G) (hn : us.length + (m + 1) = n) (hk : k < n) (hf : freeB bk u k = true)
    (hc : Ctx wr Bo By Ba Bg l xs bk) (ho : wr.ownsRow G 3 1 v us.length (us.map (Value.int .i64))) (hkp : KeepX X v W wr) (hp : J (pre ++ goTo n bk m us u k) wr) (hGW : G ≤ wr.heap.size)
    (hown' : w1.ownsRow G 3 1 v' (us.length + 1) (us.map (Value.int .i64) ++ [.int .i64 (k : Int)])) (hgrow : (wr.drew.alloc o).grownBy w1 v.ownBlock) (hgr : Grew (wr.drew.alloc o) w1 v v' us.length) :
    Ctx w1 Bo By Ba Bg l xs bk ∧ Calls Try.prog 89 #[v', .int .i64 (bits .or .i64 u (pt k)), .pointer (some ⟨Bo, 0, none⟩), .pointer (some ⟨By, 0, none⟩), .pointer (some ⟨Ba, 0, none⟩), .pointer (some ⟨Bg, 0, none⟩)] w1 fun e W' =>
      ∃ b : Bool, e = .returned (.bool b) ∧ Ctx W' Bo By Ba Bg l xs bk ∧ W'.ownsRow G 3 1 v us.length (us.map (Value.int .i64)) ∧ KeepX X v W W' ∧ G ≤ W'.heap.size ∧ (b = true → J (pre ++ goTo n bk m us u (k + 1)) W') ∧ (b = false → ∃ p, Jx p W') := by
  have hown : ∀ q, v.ownBlock = some q → G ≤ q := fun q hq => (ho.lt q hq).1
  have hvX : ∀ q, v.ownBlock = some q → q ≠ X := fun q hq => by have := hown q hq; omega
  have k1 : KeepX X v wr w1 := keepX_push o hgrow
  have c1 := hc.keep k1 hown hBX hBG
  have hB : Below G wr.drew w1 := own_step' (w := wr.drew) (show wr.drew.ownsRow G 3 1 v us.length (us.map (Value.int .i64)) from ho) (Below.refl G wr.drew) hGW o hgrow
  have hB1 : Below G wr w1 := ((Below.refl G wr).drew).trans hB
  have hp1 := hJ _ _ _ hp (hB1.mono hG)
  have o1 : w1.ownsRow G 3 1 v' (us ++ [(k : Int)]).length ((us ++ [(k : Int)]).map (Value.int .i64)) := by
    rw [List.length_append, List.map_append]
    exact hown'
  have hgy := goTo_yes (n := n) (m := m) (b := us) hf
  obtain ⟨rest, hr⟩ := hw
  obtain ⟨r2, hr2⟩ := goTo_split n bk m us u k hk
  rw [hgy] at hr2
  have h := IH (us ++ [(k : Int)]) (bits .or .i64 u (pt k)) v' w1 (pre ++ goTo n bk m us u k) (by rw [List.length_append]; simp; omega) c1 o1 hp1 ⟨r2 ++ rest, by rw [hr, hr2]; simp only [List.append_assoc]⟩ (Nat.le_trans hGW k1.1)
  refine ⟨c1, h.mono ?_⟩
  rintro e W' ⟨b, rfl, k2, o2, ht, hff⟩
  have gb := grew_back ho hgrow hgr k2 o2 hvX
  refine ⟨b, rfl, hc.keep gb.2 hown hBX hBG, gb.1, hkp.trans gb.2, Nat.le_trans hGW gb.2.1, fun hb => ?_, hff⟩
  rw [hgy, ← List.append_assoc]
  exact ht hb

set_option maxRecDepth 100000 in
set_option maxHeartbeats 8000000 in
theorem goOn_step {l X B0 G Bo By Ba Bg m : Nat} {xs bk : List Int} {ws : List (List Int)} {J Jx : List (List Int) → World → Prop} (R : Rl xs.length xs)
    (hJ : ∀ p A B, J p A → Below B0 A B → J p B) (hX : X < B0) (hG : B0 ≤ G)
    (hBX : Bo ≠ X ∧ By ≠ X ∧ Ba ≠ X ∧ Bg ≠ X) (hBG : Bo < G ∧ By < G ∧ Ba < G ∧ Bg < G)
    (IH : ∀ (us : List Int) (u : Int) (v : Value) (W : World) (pre : List (List Int)), us.length + m = xs.length → Ctx W Bo By Ba Bg l xs bk →
      W.ownsRow G 3 1 v us.length (us.map (Value.int .i64)) → J pre W → (∃ rest, ws = pre ++ goL xs.length bk m us u ++ rest) → G ≤ W.heap.size →
      Calls Try.prog 89 #[v, .int .i64 u, .pointer (some ⟨Bo, 0, none⟩), .pointer (some ⟨By, 0, none⟩), .pointer (some ⟨Ba, 0, none⟩), .pointer (some ⟨Bg, 0, none⟩)] W (GoPost X G J Jx (pre ++ goL xs.length bk m us u) v us W))
    (us : List Int) (u : Int) (v : Value) (W : World) (pre : List (List Int)) (hn : us.length + (m + 1) = xs.length) (hc : Ctx W Bo By Ba Bg l xs bk)
    (ho : W.ownsRow G 3 1 v us.length (us.map (Value.int .i64))) (hp : J pre W) (hw : ∃ rest, ws = pre ++ goL xs.length bk (m + 1) us u ++ rest) (hGW : G ≤ W.heap.size) :
    Calls Try.prog 89 #[v, .int .i64 u, .pointer (some ⟨Bo, 0, none⟩), .pointer (some ⟨By, 0, none⟩), .pointer (some ⟨Ba, 0, none⟩), .pointer (some ⟨Bg, 0, none⟩)] W (GoPost X G J Jx (pre ++ goL xs.length bk (m + 1) us u) v us W) := by
  have h1 := R.one
  have h4 := R.four
  obtain ⟨i0, hi, hz0, hz1, hz2⟩ := info_parts Try.info3
  obtain ⟨ao, cap, rfl, _⟩ := row_rd ho
  have c0 := hc.o.cell0
  have hne : ((us.length : Int) == (xs.length : Int)) = false := beq_eq_false_iff_ne.2 (by omega)
  have hown : ∀ q, (Value.slice ao us.length cap).ownBlock = some q → G ≤ q := fun q hq => (ho.lt q hq).1
  have hul : us.length ≤ 3 := by omega
  have hcf := cf_go
  have H := Lib.hid (And.intro IH (And.intro hJ (And.intro hw (And.intro hX (And.intro hG (And.intro hBX (And.intro hBG (And.intro hown hn))))))))
  have HS := Lib.hid (And.intro hc (And.intro ho hp))
  have HGW := Lib.hid hGW
  clear IH hJ hw hX hG hBX hBG hown hn R hc ho hp hGW
  go_enter Try.func89, Try.ntmps89
  go_wp2
  go_loopw [23, 9] (fun i _ wr => ∃ k : Nat, k ≤ xs.length ∧ i = .int .i64 k ∧ Ctx wr Bo By Ba Bg l xs bk ∧ wr.ownsRow G 3 1 (.slice ao us.length cap) us.length (us.map (Value.int .i64)) ∧ KeepX X (.slice ao us.length cap) W wr ∧ J (pre ++ goTo xs.length bk m us u k) wr ∧ G ≤ wr.heap.size)
    (fun i _ _ => xs.length - (intOf i).toNat)
  case atStart => exact ⟨0, Nat.zero_le _, rfl, HS.out.1, HS.out.2.1, KeepX.refl _ _ _, by rw [show goTo xs.length bk m us u 0 = [] from rfl, List.append_nil]; exact HS.out.2.2, HGW.out⟩
  case round =>
    clear HS c0 HGW
    obtain ⟨k, hk, rfl, hc, ho, hkp, hp, hGW⟩ := hrel
    by_cases hlt : k < xs.length
    · have c1 := hc.a.row k (by omega)
      have hq : (k : Int) < 4 := by omega
      cases hz : hasB u k with
      | true =>
        have HI := Lib.hid (And.intro hc (And.intro ho (And.intro hkp (And.intro hp (And.intro hGW (goTo_no (n := xs.length) (m := m) (b := us) (free_no1 (bk := bk) hz)))))))
        clear hc ho hkp hp hGW
        go_wp2_with (go_at_call 91; refine (has_any _ k (by omega) _).mono ?_; rintro e w2 ⟨rfl, rfl⟩)
        go_roundw
        case rel => exact ⟨k + 1, by omega, by go_num, HI.out.1, HI.out.2.1, HI.out.2.2.1, by rw [HI.out.2.2.2.2.2]; exact HI.out.2.2.2.1, HI.out.2.2.2.2.1⟩
        case measure => simp [intOf]; omega
      | false =>
        cases hpb : partB (rowAt bk k) u with
        | false =>
          have HI := Lib.hid (And.intro hc (And.intro ho (And.intro hkp (And.intro hp (And.intro hGW (goTo_no (n := xs.length) (m := m) (b := us) (free_no2 (bk := bk) hpb)))))))
          clear hc ho hkp hp hGW
          go_wp2_with (first
            | (go_at_call 91; refine (has_any _ k (by omega) _).mono ?_; rintro e w2 ⟨rfl, rfl⟩)
            | (go_at_call 92; refine (isPartOf_any _ _ _).mono ?_; rintro e w2 ⟨rfl, rfl⟩))
          go_roundw
          case rel => exact ⟨k + 1, by omega, by go_num, HI.out.1, HI.out.2.1, HI.out.2.2.1, by rw [HI.out.2.2.2.2.2]; exact HI.out.2.2.2.1, HI.out.2.2.2.2.1⟩
          case measure => simp [intOf]; omega
        | true =>
          have hfy := free_yes hz hpb
          have cg := hc.g.cell
          have ho2 : wr.drew.ownsRow G 3 1 (.slice ao us.length cap) us.length (us.map (Value.int .i64)) := ho
          have HI := Lib.hid (And.intro hc (And.intro ho (And.intro hkp (And.intro hp (And.intro hGW hfy)))))
          clear hc ho hkp hp hGW hfy
          go_wp2_with (first
            | (go_at_call 91; refine (has_any _ k (by omega) _).mono ?_; rintro e w2 ⟨rfl, rfl⟩)
            | (go_at_call 92; refine (isPartOf_any _ _ _).mono ?_; rintro e w2 ⟨rfl, rfl⟩))
          go_region_held_law (fun w' => w'.cell? ⟨Bg, 0, none⟩ = some (.func (.func 89) #[] #[.pointer (some ⟨Bo, 0, none⟩), .pointer (some ⟨By, 0, none⟩), .pointer (some ⟨Ba, 0, none⟩), .pointer (some ⟨Bg, 0, none⟩)])) (go_keep) (first
            | (go_at_call 93; refine (with_any _ k (by omega) _).mono ?_; rintro e w2 ⟨rfl, rfl⟩)
            | (refine step_push rfl (.tmp 39) (.tmp 41) 23 rfl G 3 i0 (.int .i64 0) 8 Try.underlying23 hi hz0 hz1 hz2 rfl _ _ _ rfl (ho2.alloc _) ⟨wr.heap.size, 0, none⟩ 1 _ rfl (cell_one_new _ _ _) (by simp [Value.oneCell']) (by unfold maxLen; omega) (by omega) (by have := HI.out.2.2.2.2.1; simp; omega) ?_; intro v' w1 hown' hgrow hgr; have HCC := Lib.hid (step_call H.out.1 H.out.2.1 H.out.2.2.1 H.out.2.2.2.1 H.out.2.2.2.2.1 H.out.2.2.2.2.2.1 H.out.2.2.2.2.2.2.1 H.out.2.2.2.2.2.2.2.2 hlt HI.out.2.2.2.2.2 HI.out.1 HI.out.2.1 HI.out.2.2.1 HI.out.2.2.2.1 HI.out.2.2.2.2.1 hown' hgrow hgr); have c5 := HCC.out.1.g.cell; clear hown' hgrow hgr)
            | ((with_reducible refine HCC.out.2.mono ?_); rintro e w3 ⟨b, rfl, hc3, hb⟩; have c5 := hc3.g.cell))
          all_goals
            cases b with
            | true =>
              have HB := Lib.hid (And.intro hc3 (And.intro hb.1 (And.intro hb.2.1 (And.intro (hb.2.2.2.1 rfl) hb.2.2.1))))
              clear hb hc3
              go_wp2
              go_roundw
              case rel => exact ⟨k + 1, by omega, by go_num, HB.out⟩
              case measure => simp [intOf]; omega
            | false =>
              have HB := Lib.hid (And.intro hb.1 (And.intro hb.2.1 (hb.2.2.2.2 rfl)))
              clear hb hc3
              go_wp2
              go_ret
              exact ⟨false, rfl, HB.out.2.1, HB.out.1, fun h => Bool.noConfusion h, fun _ => HB.out.2.2⟩
    · obtain rfl : k = xs.length := by omega
      have HI := Lib.hid (And.intro ho (And.intro hkp hp))
      clear hc ho hkp hp
      go_wp2
      go_ret
      exact ⟨true, rfl, HI.out.2.1, HI.out.1, fun _ => HI.out.2.2, fun h => Bool.noConfusion h⟩

/-- one call of the closure -/
theorem goOn_any {l X B0 G Bo By Ba Bg : Nat} {xs bk : List Int} {ws : List (List Int)} {J Jx : List (List Int) → World → Prop} (R : Rl xs.length xs)
    (hJ : ∀ p A B, J p A → Below B0 A B → J p B) (hY : YieldsW l X B0 xs.length ws J Jx) (hX : X < B0) (hG : B0 ≤ G)
    (hBX : Bo ≠ X ∧ By ≠ X ∧ Ba ≠ X ∧ Bg ≠ X) (hBG : Bo < G ∧ By < G ∧ Ba < G ∧ Bg < G) :
    ∀ (m : Nat) (us : List Int) (u : Int) (v : Value) (W : World) (pre : List (List Int)), us.length + m = xs.length → Ctx W Bo By Ba Bg l xs bk →
      W.ownsRow G 3 1 v us.length (us.map (Value.int .i64)) → J pre W → (∃ rest, ws = pre ++ goL xs.length bk m us u ++ rest) → G ≤ W.heap.size →
      Calls Try.prog 89 #[v, .int .i64 u, .pointer (some ⟨Bo, 0, none⟩), .pointer (some ⟨By, 0, none⟩), .pointer (some ⟨Ba, 0, none⟩), .pointer (some ⟨Bg, 0, none⟩)] W (GoPost X G J Jx (pre ++ goL xs.length bk m us u) v us W)
  | 0, us, u, v, W, pre, hn, hc, ho, hp, hw, hGW => by
    obtain ⟨rest, hr⟩ := hw
    exact goOn_leaf R hJ hY hX hG us u v W pre hn hc ho hp ⟨rest, by rw [hr, show goL xs.length bk 0 us u = [us] from rfl]; simp⟩ hGW
  | m + 1, us, u, v, W, pre, hn, hc, ho, hp, hw, hGW =>
    goOn_step R hJ hX hG hBX hBG (goOn_any R hJ hY hX hG hBX hBG m) us u v W pre hn hc ho hp hw hGW
end Go.Proofs.Ytchbbflpckaddaa

namespace Go.Proofs.Ytchbbflpckaddaa
open Go.RowKit Go.Shelf
attribute [local go_sem] Oper.semAt_some

/-- the sequence, called with a range's yield -/
theorem ways1_any {l X Bo Ba : Nat} {xs bk : List Int} {ws : List (List Int)} {J Jx : List (List Int) → World → Prop} (R : Rl xs.length xs) (W : World)
    (hJ : ∀ p A B, J p A → Below W.heap.size A B → J p B) (hY : YieldsW l X W.heap.size xs.length ws J Jx) (hX : X < W.heap.size)
    (hBX : Bo ≠ X ∧ Ba ≠ X) (ho : OrdAt W Bo xs) (ha : RelAt W Ba bk) (hws : ws = goL xs.length bk xs.length [] 0) (hp : J [] W) :
    Calls Try.prog 88 #[.func (.yield l) #[] #[], .pointer (some ⟨Bo, 0, none⟩), .pointer (some ⟨Ba, 0, none⟩)] W fun e W' => (∃ v, e = .returned v) ∧ (J ws W' ∨ ∃ p, Jx p W') := by
  have hmf : ∀ (fn : Fn) (first cap : Array Value) (w : World), Sem.run Try.prog (Instr.makeFunc fn first cap) w = .ok (.func fn first cap) w := fun _ _ _ _ => rfl
  have hcf := cf_go
  have hol := ho.lt
  have hal := ha.lt
  have H := Lib.hid (fun (W2 : World) (hc : Ctx W2 Bo W.heap.size Ba (W.heap.size + 1) l xs bk) (hB : Below W.heap.size W W2) (hs : W.heap.size + 2 ≤ W2.heap.size) =>
    goOn_any R hJ hY hX (G := W.heap.size + 2) (by omega) ⟨hBX.1, by omega, hBX.2, by omega⟩ ⟨by omega, by omega, by omega, by omega⟩ xs.length [] 0 (.slice none 0 0) W2 [] (by simp) hc (World.ownsRow_nil _ _ _ _) (hJ _ _ _ hp hB) ⟨[], by rw [hws]; simp⟩ hs)
  have y1 := (Boxed.new W 25 (.func (.yield l) #[] #[])).alloc (.cells #[(.func (.func 89) #[] #[.pointer (some ⟨Bo, 0, none⟩), .pointer (some ⟨W.heap.size, 0, none⟩), .pointer (some ⟨Ba, 0, none⟩), .pointer (some ⟨W.heap.size + 1, 0, none⟩)])] 89)
  have g1 := Boxed.new (W.alloc (.cells #[.func (.yield l) #[] #[]] 25)) 89 (.func (.func 89) #[] #[.pointer (some ⟨Bo, 0, none⟩), .pointer (some ⟨W.heap.size, 0, none⟩), .pointer (some ⟨Ba, 0, none⟩), .pointer (some ⟨W.heap.size + 1, 0, none⟩)])
  rw [World.size_alloc] at g1
  have B1 := below_two W (.cells #[.func (.yield l) #[] #[]] 25) (.cells #[(.func (.func 89) #[] #[.pointer (some ⟨Bo, 0, none⟩), .pointer (some ⟨W.heap.size, 0, none⟩), .pointer (some ⟨Ba, 0, none⟩), .pointer (some ⟨W.heap.size + 1, 0, none⟩)])] 89)
  have o1 := ho.below B1 hol
  have a1 := ha.below B1 hal
  have qc := g1.cell
  have HC := Lib.hid (H.out _ ⟨o1, a1, y1, g1⟩ B1 (by simp))
  clear hJ hY ho ha hp hBX y1 B1 o1 a1 H g1
  go_enter Try.func88, Try.ntmps88
  go_wp2_with fail
  refine HC.out.mono ?_
  rintro e W' ⟨b, rfl, _, _, ht, hf⟩
  rw [List.nil_append, ← hws] at ht
  have HB := Lib.hid (And.intro ht hf)
  clear ht hf qc HC
  go_wp2
  go_end0
  refine ⟨⟨_, rfl⟩, ?_⟩
  cases b with
  | true => exact .inl (HB.out.1 rfl)
  | false => exact .inr (HB.out.2 rfl)

theorem ways_any {xs : List Int} (R : Rl xs.length xs) (w : World) :
    Calls Try.prog 49 #[relOf xs] w fun e w' => ∃ Ba : Nat, e = .returned (.func (.func 88) #[] #[.pointer (some ⟨w.heap.size, 0, none⟩), .pointer (some ⟨Ba, 0, none⟩)]) ∧
      w.heap.size < Ba ∧ OrdAt w' w.heap.size xs ∧ RelAt w' Ba (aheadL xs) ∧ Below w.heap.size w w' := by
  have hmf : ∀ (fn : Fn) (first cap : Array Value) (w : World), Sem.run Try.prog (Instr.makeFunc fn first cap) w = .ok (.func fn first cap) w := fun _ _ _ _ => rfl
  have x0 := OrdAt.new w xs
  have B0 := below_one w (.cells #[.int .i64 xs.length, .int .i64 (rowAt xs 0), .int .i64 (rowAt xs 1), .int .i64 (rowAt xs 2), .int .i64 (rowAt xs 3)] 45)
  have p0 := x0.cell0
  have p1 := x0.cell1
  have p2 := x0.cell2
  have p3 := x0.cell3
  have p4 := x0.cell4
  have H := Lib.hid (And.intro (fun w => offR R w) (fun w => turnedR R.off w))
  clear R
  unfold aheadL
  go_enter Try.func49, Try.ntmps49
  go_wp2_with fail
  refine (H.out.1 _).mono ?_
  rintro e w1 ⟨rfl, hb1⟩
  have x1 := x0.below hb1 x0.lt
  have B1 := B0.trans (hb1.mono B0.size)
  clear x0 B0 p0 p1 p2 p3 p4 hb1
  go_wp2_with fail
  refine (H.out.2 _).mono ?_
  rintro e w2 ⟨rfl, hb2⟩
  have x2 := x1.below hb2 x1.lt
  have B2 := B1.trans (hb2.mono B1.size)
  have hlt := x2.lt
  clear x1 B1 hb2
  go_wp2
  go_ret
  exact ⟨w2.heap.size, rfl, hlt, x2.alloc _, RelAt.new w2 _, B2.alloc B2.size _⟩

theorem cf_ways1 (args : Array Value) (w : World) : Sem.run Try.prog (callFunc 88 args) w = .ok (.enter 88 args) w := by kernel_rfl
theorem below_put {B l : Nat} {W : World} (o : Obj) (h : B ≤ l) : Below B W (W.putObj l o) :=
  ⟨rfl, rfl, rfl, by simp, fun k hk => World.putObj_heap_other (by omega)⟩
theorem keepX_put {X l : Nat} {v : Value} {W : World} {o : Obj} (o' : Obj) (hl : W.heap[l]? = some o) (ho : o.isCells = false) : KeepX X v W (W.putObj l o') :=
  ⟨by simp, fun b o2 _ _ hb hc => by
    by_cases e : b = l
    · subst e
      rw [hl] at hb
      cases hb
      rw [ho] at hc
      cases hc
    · exact (World.putObj_heap_other e).trans hb⟩

theorem keepX_set (X : Nat) (u : Value) (W : World) (v : Value) : KeepX X u W (W.setCell ⟨X, 0, none⟩ v) :=
  ⟨(KeepsOthers.setCell W ⟨X, 0, none⟩ v).size, fun b _ hX _ hb _ => (Below.heap_setCell W ⟨X, 0, none⟩ v b hX).trans hb⟩

/-! a range over the ways -/
section
variable {Q : Exit → Act → World → Prop} {a : Act} {w : World} {n : Nat}

theorem range_ways {g : Operand} {pt : Tmp} {assign body : Code} {X Bo Ba : Nat} {xs bk : List Int} {ws : List (List Int)} (R : Rl xs.length xs)
    (hg : a.eval g = .func (.func 88) #[] #[.pointer (some ⟨Bo, 0, none⟩), .pointer (some ⟨Ba, 0, none⟩)])
    (hX : X < w.heap.size) (hBX : Bo ≠ X ∧ Ba ≠ X) (ho : OrdAt w Bo xs) (ha : RelAt w Ba bk) (hws : ws = goL xs.length bk xs.length [] 0)
    (I : List (List Int) → World → Prop) (Ix : Code → List (List Int) → World → Prop)
    (hI : ∀ p A B, I p A → Below w.heap.size A B → I p B)
    (hIx : ∀ c p A l o o', Ix c p A → w.heap.size ≤ l → A.heap[l]? = some o → o.isCells = false → Ix c p (A.putObj l o'))
    (h0 : I [] w) (A1 : Value → Act)
    (hassign : ∀ l vx W (K : Act → World → Prop), K (A1 vx) W → assign.wpIn (Fence.wide.inRound l) 5 Try.prog (Exit.then K (fun _ _ _ => False)) { tmps := a.tmps.setIfInBounds pt vx, defers := [] } W)
    (hbody : ∀ l pre x vx W, (∃ rest, ws = pre ++ x :: rest) → I pre W → x.length = xs.length → W.ownsRow w.heap.size 3 1 vx xs.length (x.map (Value.int .i64)) →
      body.wpIn (Fence.wide.inRound l) 5 Try.prog (fun e _ W' => KeepX X (.slice none 0 0) W W' ∧ KeepsFrom w.heap.size W W' ∧ (match e with
        | .normal => I (pre ++ [x]) W'
        | .ret => Ix .ret (pre ++ [x]) W'
        | .exit id => Ix (.exit id) (pre ++ [x]) W'
        | .goto t => Ix (.goto t) (pre ++ [x]) W'
        | .panic _ => False
        | .outgrown => False)) (A1 vx) W)
    (hdone : ∀ D W, w.heap.size ≤ D → I ws W → W.heap[D]? = some (.deferred (some [])) → Q .normal { a with defers := { target := .collected D, args := #[] } :: a.defers } W)
    (hstop : ∀ D c p W, w.heap.size ≤ D → Ix c p W → W.heap[D]? = some (.deferred (some [])) → c.wpIn Fence.wide n Try.prog Q { a with defers := { target := .collected D, args := #[] } :: a.defers } W) :
    (Code.rangeFunc g #[pt] assign body).wpIn Fence.wide n Try.prog Q a w := by
  refine wpIn_rangeFunc fun fn _ => ?_
  obtain ⟨rcd, hr⟩ : ∃ rcd : LoopState → Option Code → Loop, rcd = fun st pe => { state := st, pending := pe, fn, tmps := a.tmps, params := #[pt], assign, body, defers := w.heap.size } := ⟨_, rfl⟩
  obtain ⟨W1, hW1⟩ : ∃ W1, (w.alloc (.deferred (some []))).alloc (.loop (rcd .ready none)) = W1 := ⟨_, rfl⟩
  have hsz : W1.heap.size = w.heap.size + 1 + 1 := by rw [← hW1]; simp
  have hL : W1.heap[w.heap.size + 1]? = some (.loop (rcd .ready none)) := by
    have h := World.alloc_heap_new (w.alloc (.deferred (some []))) (.loop (rcd .ready none))
    rw [World.size_alloc, hW1] at h
    exact h
  have hD : W1.heap[w.heap.size]? = some (.deferred (some [])) := by
    rw [← hW1]
    exact (Below.heap_alloc _ _ _ (by simp)).trans (World.alloc_heap_new w _)
  have hB1 : Below w.heap.size w W1 := by rw [← hW1]; exact below_two w _ _
  refine ⟨w.heap.size + 1, [{ target := .collected w.heap.size, args := #[] }], W1, { target := .fn (.func 88) #[.pointer (some ⟨Bo, 0, none⟩), .pointer (some ⟨Ba, 0, none⟩)], args := #[.func (.yield (w.heap.size + 1)) #[] #[]] }, W1, 88,
    #[.func (.yield (w.heap.size + 1)) #[] #[], .pointer (some ⟨Bo, 0, none⟩), .pointer (some ⟨Ba, 0, none⟩)], W1, ?_, ?_, fun _ _ => trivial, ?_, fun h => Bool.noConfusion h, ?_⟩
  · rw [← hW1, hr]
    exact run_enterLoop_outer _ _ _ _ _
  · simp only [resolve, hg]
    simp [go_sem]
  · simp [invoke, go_sem]
  refine callsIn_wide.2 ((ways1_any (l := w.heap.size + 1) (X := X) (ws := ws)
    (J := fun p W => I p W ∧ W.heap[w.heap.size + 1]? = some (.loop (rcd .ready none)) ∧ W.heap[w.heap.size]? = some (.deferred (some [])))
    (Jx := fun p W => ∃ c, Ix c p W ∧ W.heap[w.heap.size + 1]? = some (.loop (rcd .done (some c))) ∧ W.heap[w.heap.size]? = some (.deferred (some [])))
    R W1 ?_ ?_ (by omega) hBX (ho.below hB1 ho.lt) (ha.below hB1 ha.lt) hws ⟨hI _ _ _ h0 hB1, hL, hD⟩).mono ?_)
  · rintro p A B ⟨h1, h2, h3⟩ hb
    exact ⟨hI p A B h1 (hb.mono (by omega)), (hb.block _ (by omega)).trans h2, (hb.block _ (by omega)).trans h3⟩
  · rintro pre x vx W hw ⟨hi, hl, hd⟩ hx hov m
    have hlt : w.heap.size + 1 < W.heap.size := (Array.getElem?_eq_some_iff.1 hl).1
    have hy := run_yield (P := Try.prog) (args := #[vx]) hl (by rw [hr]; simp)
    have hbeg := run_beginRound (P := Try.prog) hl (by rw [hr])
    have hl2 : (W.putObj (w.heap.size + 1) (.loop { rcd .ready none with state := .busy })).heap[w.heap.size + 1]? = some (.loop { rcd .ready none with state := .busy }) := World.putObj_heap_same hlt
    have hd2 : (W.putObj (w.heap.size + 1) (.loop { rcd .ready none with state := .busy })).heap[w.heap.size]? = some (.deferred (some [])) := (World.putObj_heap_other (by omega)).trans hd
    have hov2 : (W.putObj (w.heap.size + 1) (.loop { rcd .ready none with state := .busy })).ownsRow w.heap.size 3 1 vx xs.length (x.map (Value.int .i64)) :=
      (own_mono hov (by omega)).kept (grownBy_putObj' W _ _) (by
        cases hv : vx.ownBlock with
        | none => exact .inl rfl
        | some q => exact .inr (fun e => by cases e; have := (hov.lt _ hv).1; omega))
    have h5 : RoundIn Fence.wide 5 Try.prog (w.heap.size + 1) (rcd .ready none).fn (((rcd .ready none).params.zip #[vx]).foldl (fun tmps (t, a) => tmps.setIfInBounds t a) (rcd .ready none).tmps) (rcd .ready none).assign (rcd .ready none).body W
        fun e W' => ∃ b : Bool, e = .returned (.bool b) ∧ KeepX X (.slice none 0 0) W W' ∧ (b = true → I (pre ++ [x]) W' ∧ W'.heap[w.heap.size + 1]? = some (.loop (rcd .ready none)) ∧ W'.heap[w.heap.size]? = some (.deferred (some []))) ∧
          (b = false → ∃ c, Ix c (pre ++ [x]) W' ∧ W'.heap[w.heap.size + 1]? = some (.loop (rcd .done (some c))) ∧ W'.heap[w.heap.size]? = some (.deferred (some []))) := by
      refine roundIn_of_wpIn trivial ?_
      rw [hr] at hbeg hl2 hd2 hov2 ⊢
      have hfo : (#[pt].zip #[vx]).foldl (fun tmps (t, a) => tmps.setIfInBounds t a) a.tmps = a.tmps.setIfInBounds pt vx := by simp
      dsimp only
      rw [hfo]
      refine hassign _ vx W _ ⟨_, hbeg, wpIn_mono (hbody _ pre x vx _ hw (hI _ _ _ hi (below_put _ (by omega))) hx hov2) ?_⟩
      rintro e a3 W3 ⟨hkx, hkf, hm⟩
      have hl3 := hkf.same _ _ (by omega) hl2 rfl
      have hd3 := hkf.same _ _ (Nat.le_refl _) hd2 rfl
      have hlt3 : w.heap.size + 1 < W3.heap.size := (Array.getElem?_eq_some_iff.1 hl3).1
      have fin : ∀ o, KeepX X (.slice none 0 0) W (W3.putObj (w.heap.size + 1) o) := fun o => ((keepX_put _ hl rfl).trans hkx).trans (keepX_put _ hl3 rfl)
      have dfr : ∀ o, (W3.putObj (w.heap.size + 1) o).heap[w.heap.size]? = some (.deferred (some [])) := fun o => (World.putObj_heap_other (by omega)).trans hd3
      cases e with
      | normal => exact ⟨_, _, run_endRound none hl3, true, rfl, fin _, fun _ => ⟨hI _ _ _ hm (below_put _ (by omega)), World.putObj_heap_same hlt3, dfr _⟩, fun h => Bool.noConfusion h⟩
      | ret => exact ⟨_, _, run_endRound (some .ret) hl3, false, rfl, fin _, fun h => Bool.noConfusion h, fun _ => ⟨.ret, hIx _ _ _ _ _ _ hm (by omega) hl3 rfl, World.putObj_heap_same hlt3, dfr _⟩⟩
      | exit id => exact ⟨_, _, run_endRound (some (.exit id)) hl3, false, rfl, fin _, fun h => Bool.noConfusion h, fun _ => ⟨.exit id, hIx _ _ _ _ _ _ hm (by omega) hl3 rfl, World.putObj_heap_same hlt3, dfr _⟩⟩
      | goto t => exact ⟨_, _, run_endRound (some (.goto t)) hl3, false, rfl, fin _, fun h => Bool.noConfusion h, fun _ => ⟨.goto t, hIx _ _ _ _ _ _ hm (by omega) hl3 rfl, World.putObj_heap_same hlt3, dfr _⟩⟩
      | panic ch => exact hm.elim
      | outgrown => exact hm.elim
    exact ⟨_, _, _, _, hy, h5.1, fun c cs _ => h5.2 c cs (room_wide _)⟩
  · rintro e W2 ⟨⟨v, rfl⟩, (⟨hi, hl, hd⟩ | ⟨p, c, hx, hl, hd⟩)⟩
    · have he := run_endLoop (P := Try.prog) hl (by rw [hr]; simp)
      refine ⟨none, _, by rw [he, hr], ?_⟩
      exact hdone w.heap.size _ (Nat.le_refl _) (hI _ _ _ hi (below_put _ (by omega))) ((World.putObj_heap_other (by omega)).trans hd)
    · have he := run_endLoop (P := Try.prog) hl (by rw [hr]; simp)
      refine ⟨some c, _, by rw [he, hr], ?_⟩
      exact hstop w.heap.size c p _ (Nat.le_refl _) (hIx _ _ _ _ _ _ hx (by omega) hl rfl) ((World.putObj_heap_other (by omega)).trans hd)
end
end Go.Proofs.Ytchbbflpckaddaa

namespace Go.Proofs.Ytchbbflpckaddaa
open Go.RowKit Go.Shelf
attribute [local go_sem] Oper.semAt_some

def waysN (xs : List Int) : Int := ifN (ordB xs) ((waysL xs).length : Int)

set_option maxRecDepth 100000 in
set_option maxHeartbeats 8000000 in
theorem implWays_in (ao : Option Addr) (ca : Nat) (xs : List Int) (w : World) (hp : ordB xs = true) (hx : Rd w ao xs) :
    CallsIn Fence.wide 7 Try.prog 15 #[.slice ao xs.length ca] w fun e w' => e = .returned (.tuple #[.int .i64 ((waysL xs).length : Int), .bool true]) ∧ Below w.heap.size w w' := by
  have R := ord_rl hp
  have hwl := ways_some hp
  have hmo : Try.prog.follows .mixedOrders = true := by kernel_rfl
  have H := Lib.hid (And.intro (orderFrom_yes ao ca xs w hp hx) (And.intro (fun w => ways_any R w) (And.intro R hwl)))
  clear R hwl hp hx
  refine callsIn_of_wp_marks Try.func15 rfl trivial ?_ rfl
  simp only [Try.ntmps15, List.size_toArray, List.length_cons, List.length_nil, Nat.reduceAdd, Nat.reduceSub, Array.replicate_succ, Array.replicate_zero, List.push_toArray, List.append_toArray, List.nil_append, List.cons_append]
  gi_wp2_with fail
  refine ⟨trivial, ?_⟩
  refine (callsIn_wide.2 H.out.1).mono ?_
  rintro e w1 ⟨rfl, hb⟩
  have x1 := (OrdAt.new w1 xs).alloc (.cells #[.int .i64 0] 3)
  have c1 := Boxed.new (w1.alloc (.cells #[.int .i64 xs.length, .int .i64 (rowAt xs 0), .int .i64 (rowAt xs 1), .int .i64 (rowAt xs 2), .int .i64 (rowAt xs 3)] 45)) 3 (.int .i64 0)
  rw [World.size_alloc] at c1
  have B1 := (hb.alloc hb.size (.cells #[.int .i64 xs.length, .int .i64 (rowAt xs 0), .int .i64 (rowAt xs 1), .int .i64 (rowAt xs 2), .int .i64 (rowAt xs 3)] 45)).alloc (by have := hb.size; simp; omega) (.cells #[.int .i64 0] 3)
  have p0 := x1.cell0
  have p1 := x1.cell1
  have p2 := x1.cell2
  have p3 := x1.cell3
  have p4 := x1.cell4
  have hw1 := hb.size
  clear hb
  gi_wp2_with fail
  refine ⟨trivial, ?_⟩
  refine (callsIn_wide.2 (H.out.2.1 _)).mono ?_
  rintro e w2 ⟨Ba, rfl, hBa, ho, ha, hb2⟩
  have c2 : Boxed w2 (w1.heap.size + 1) 3 (.int .i64 0) := (hb2.block _ (by simp)).trans c1
  have B2 := B1.trans (hb2.mono B1.size)
  clear x1 c1 B1 hb2 p0 p1 p2 p3 p4
  gi_wp2
  simp only [World.size_alloc] at hBa ho
  have hX := c2.lt
  have hs2 := B2.size
  have hall := H.out.2.2.2.2
  refine range_ways (X := w1.heap.size + 1) (Bo := w1.heap.size + 1 + 1) (Ba := Ba) (ws := waysL xs) H.out.2.2.1 rfl hX ⟨by omega, by omega⟩ ho ha rfl
    (fun p W => Boxed W (w1.heap.size + 1) 3 (.int .i64 (p.length : Int)) ∧ Below w.heap.size w W) (fun _ _ _ => False)
    (fun p A B h hb => ⟨(hb.block _ hX).trans h.1, h.2.trans (hb.mono hs2)⟩) (fun _ _ _ _ _ _ h _ _ _ => h) ⟨c2, B2⟩
    (fun vx => { tmps := #[.slice ao xs.length ca, undef, .int .i64 0, .bool false, .pointer (some ⟨w1.heap.size, 0, none⟩), .bool true, .pointer (some ⟨w1.heap.size + 1, 0, none⟩), .tuple #[relOf xs, .bool true], .slice ao xs.length ca, .tuple #[relOf xs, .bool true], relOf xs, .bool true, .bool true, .bool false, .agg #[.int .i64 xs.length, .int .i64 (rowAt xs 0), .int .i64 (rowAt xs 1), .int .i64 (rowAt xs 2), .int .i64 (rowAt xs 3)], .func (.func 88) #[] #[.pointer (some ⟨w1.heap.size + 1 + 1, 0, none⟩), .pointer (some ⟨Ba, 0, none⟩)], vx, undef, undef, undef], defers := [] }) ?assign ?body ?done ?stop
  case assign =>
    intro l vx W K hK
    gi_wp2
    exact hK
  case body =>
    rintro l pre x vx W ⟨rest, hr⟩ ⟨hbx, hB⟩ hxl hov
    have hpl : pre.length < 24 := by
      have := congrArg List.length hr
      simp at this
      omega
    have q0 := hbx.cell
    have f0 := hbx.frozen
    have HB := Lib.hid (And.intro hbx (And.intro hB (And.intro hX hs2)))
    have e1 : ((pre ++ [x]).length : Int) = (pre.length : Int) + 1 := by rw [List.length_append]; simp
    have HE := Lib.hid e1
    clear hbx hB hr hov e1
    gi_wp2
    refine ⟨keepX_set _ _ _ _, (KeepsOthers.setCell _ _ _).from _, HB.out.1.set _, HB.out.2.1.setCell (p := ⟨w1.heap.size + 1, 0, none⟩) (by show w.heap.size ≤ w1.heap.size + 1; omega) _⟩
  case done =>
    rintro D W hD ⟨hbx, hB⟩ hK
    have q0 := hbx.cell
    have HB := Lib.hid hB
    clear hbx hB ho ha c2 B2
    gi_wp2
    refine ⟨by simp, .inl ⟨_, _, rfl, run_takeDeferred hK, ?_⟩⟩
    exact ⟨.tuple #[.int .i64 ((waysL xs).length : Int), .bool true], by simp [results, Try.results15, go_sem], rfl, HB.out.trans (belowK_b (w := w) (Nat.le_refl _) W D _ _ (by omega) hK rfl rfl)⟩
  case stop =>
    rintro D c p W _ h _
    exact h.elim

theorem implOrderWays_any (ao : Option Addr) (ca : Nat) (xs : List Int) (w : World) (hl : xs.length ≤ 1048576) (hx : Rd w ao xs) :
    Calls Try.prog 15 #[.slice ao xs.length ca] w fun e w' => e = .returned (.tuple #[.int .i64 (waysN xs), .bool (ordB xs)]) ∧ Below w.heap.size w w' := by
  unfold waysN
  cases hp : ordB xs with
  | false =>
    have HC := Lib.hid (orderFrom_no ao ca xs w hl hp hx)
    clear hp hx
    go_enter Try.func15, Try.ntmps15
    go_wp2_with fail
    refine HC.out.mono ?_
    rintro e w1 ⟨rfl, hb⟩
    go_wp2
    go_ret2
    exact ⟨rfl, hb.alloc hb.size _⟩
  | true => exact callsIn_wide.1 (implWays_in ao ca xs w hp hx)

/-- the first way -/
def firstL (xs : List Int) : List Int := (waysL xs).headD []
theorem first_eq {xs x : List Int} {rest : List (List Int)} (h : waysL xs = x :: rest) : firstL xs = x := by unfold firstL; rw [h]; rfl

set_option maxRecDepth 100000 in
set_option maxHeartbeats 8000000 in
theorem implFirst_in (ao : Option Addr) (ca : Nat) (xs : List Int) (w : World) (hp : ordB xs = true) (hx : Rd w ao xs) :
    CallsIn Fence.wide 7 Try.prog 32 #[.slice ao xs.length ca] w (Gave w (ifR true (firstL xs)) true) := by
  have R := ord_rl hp
  have hwl := ways_some hp
  have hmo : Try.prog.follows .mixedOrders = true := by kernel_rfl
  have H := Lib.hid (And.intro (orderFrom_yes ao ca xs w hp hx) (And.intro (fun w => ways_any R w) (And.intro R hwl)))
  clear R hwl hp hx
  refine callsIn_of_wp_marks Try.func32 rfl trivial ?_ rfl
  simp only [Try.ntmps32, List.size_toArray, List.length_cons, List.length_nil, Nat.reduceAdd, Nat.reduceSub, Array.replicate_succ, Array.replicate_zero, List.push_toArray, List.append_toArray, List.nil_append, List.cons_append]
  gi_wp2_with fail
  refine ⟨trivial, ?_⟩
  refine (callsIn_wide.2 H.out.1).mono ?_
  rintro e w1 ⟨rfl, hb⟩
  have x1 := (OrdAt.new w1 xs).alloc (.cells #[.slice none 0 0] 23)
  have c1 := Boxed.new (w1.alloc (.cells #[.int .i64 xs.length, .int .i64 (rowAt xs 0), .int .i64 (rowAt xs 1), .int .i64 (rowAt xs 2), .int .i64 (rowAt xs 3)] 45)) 23 (.slice none 0 0)
  rw [World.size_alloc] at c1
  have B1 := (hb.alloc hb.size (.cells #[.int .i64 xs.length, .int .i64 (rowAt xs 0), .int .i64 (rowAt xs 1), .int .i64 (rowAt xs 2), .int .i64 (rowAt xs 3)] 45)).alloc (by have := hb.size; simp; omega) (.cells #[.slice none 0 0] 23)
  have p0 := x1.cell0
  have p1 := x1.cell1
  have p2 := x1.cell2
  have p3 := x1.cell3
  have p4 := x1.cell4
  have hw1 := hb.size
  clear hb
  gi_wp2_with fail
  refine ⟨trivial, ?_⟩
  refine (callsIn_wide.2 (H.out.2.1 _)).mono ?_
  rintro e w2 ⟨Ba, rfl, hBa, ho, ha, hb2⟩
  have c2 : Boxed w2 (w1.heap.size + 1) 23 (.slice none 0 0) := (hb2.block _ (by simp)).trans c1
  have B2 := B1.trans (hb2.mono B1.size)
  clear x1 c1 B1 hb2 p0 p1 p2 p3 p4
  gi_wp2
  simp only [World.size_alloc] at hBa ho
  have hX := c2.lt
  have hs2 := B2.size
  have hall := H.out.2.2.2
  refine range_ways (X := w1.heap.size + 1) (Bo := w1.heap.size + 1 + 1) (Ba := Ba) (ws := waysL xs) H.out.2.2.1 rfl hX ⟨by omega, by omega⟩ ho ha rfl
    (fun p W => p = [] ∧ Boxed W (w1.heap.size + 1) 23 (.slice none 0 0) ∧ Below w.heap.size w W)
    (fun c p W => c = .exit 0 ∧ ∃ x v rest, waysL xs = x :: rest ∧ Boxed W (w1.heap.size + 1) 23 v ∧ W.ownsRow w2.heap.size 3 1 v x.length (x.map (Value.int .i64)) ∧ Below w.heap.size w W)
    (fun p A B h hb => ⟨h.1, (hb.block _ hX).trans h.2.1, h.2.2.trans (hb.mono hs2)⟩)
    (fun c p A l o o' h hl ho hc => by
      obtain ⟨h1, x, v, rest, h2, h3, h4, h5⟩ := h
      exact ⟨h1, x, v, rest, h2, (World.putObj_heap_other (by omega)).trans h3, keep_row (keepX_put (X := w1.heap.size + 1) (v := .slice none 0 0) o' ho hc) h4 (fun q hq => by have := (h4.lt q hq).1; omega) (fun q _ => by simp [Value.ownBlock]), h5.trans (below_put o' (by omega))⟩)
    ⟨rfl, c2, B2⟩
    (fun vx => { tmps := #[.slice ao xs.length ca, undef, .slice none 0 0, .bool false, .pointer (some ⟨w1.heap.size, 0, none⟩), .bool true, .pointer (some ⟨w1.heap.size + 1, 0, none⟩), vx, .tuple #[relOf xs, .bool true], .slice ao xs.length ca, .tuple #[relOf xs, .bool true], relOf xs, .bool true, .bool true, .bool false, .agg #[.int .i64 xs.length, .int .i64 (rowAt xs 0), .int .i64 (rowAt xs 1), .int .i64 (rowAt xs 2), .int .i64 (rowAt xs 3)], .func (.func 88) #[] #[.pointer (some ⟨w1.heap.size + 1 + 1, 0, none⟩), .pointer (some ⟨Ba, 0, none⟩)], vx, undef, undef], defers := [] }) ?assign ?body ?done ?stop
  case assign =>
    intro l vx W K hK
    gi_wp2
    exact hK
  case body =>
    rintro l pre x vx W ⟨rest, hr⟩ ⟨rfl, hbx, hB⟩ hxl hov
    obtain ⟨vo, vc, rfl, _⟩ := row_rd (by rw [hxl]; exact hov)
    rw [hxl] at hov ⊢
    have q0 := hbx.cell
    have f0 := hbx.frozen
    have HB := Lib.hid (And.intro hbx (And.intro hB (And.intro hX (And.intro hs2 (And.intro hr (And.intro hxl hov))))))
    clear hbx hB hr hov
    gi_wp2
    have ho1 : W.ownsRow w2.heap.size 3 1 (.slice vo xs.length vc) x.length (x.map (Value.int .i64)) := by rw [hxl]; exact HB.out.2.2.2.2.2.2
    exact ⟨keepX_set _ _ _ _, (KeepsOthers.setCell _ _ _).from _, x, ⟨rest, HB.out.2.2.2.2.1⟩, _, HB.out.1.set _, keep_row (keepX_set (w1.heap.size + 1) (.slice none 0 0) W _) ho1 (fun q hq => by have := (ho1.lt q hq).1; omega) (fun q _ => by simp [Value.ownBlock]),
      HB.out.2.1.setCell (p := ⟨w1.heap.size + 1, 0, none⟩) (by show w.heap.size ≤ w1.heap.size + 1; omega) _⟩
  case done =>
    rintro D W hD ⟨h, _⟩ hK
    have := hall.1
    rw [h] at this
    exact absurd this (by decide)
  case stop =>
    rintro D c p W hD ⟨rfl, x, v, rest, h2, h3, h4, h5⟩ hK
    have q0 := h3.cell
    have HB := Lib.hid (And.intro h2 (And.intro h4 (And.intro h5 hs2)))
    clear h3 h4 h5 ho ha c2 B2
    gi_wp2
    refine ⟨by simp, .inl ⟨_, _, rfl, run_takeDeferred hK, ?_⟩⟩
    have h4 := HB.out.2.1
    have hfe := first_eq HB.out.1
    have o5 := own_mono (keep_row (keepX_put (X := w1.heap.size + 1) (v := .slice none 0 0) (.deferred none) hK rfl) h4 (fun q hq => by have := (h4.lt q hq).1; omega) (fun q _ => by simp [Value.ownBlock])) HB.out.2.2.2
    exact ⟨.tuple #[v, .bool true], by simp [results, Try.results32, go_sem], v, rfl, by rw [hfe]; exact o5, HB.out.2.2.1.trans (belowK_b (w := w) (Nat.le_refl _) W D _ _ (by omega) hK rfl rfl)⟩

theorem implOrderFirst_any (ao : Option Addr) (ca : Nat) (xs : List Int) (w : World) (hl : xs.length ≤ 1048576) (hx : Rd w ao xs) :
    Calls Try.prog 32 #[.slice ao xs.length ca] w (Gave w (ifR (ordB xs) (firstL xs)) (ordB xs)) := by
  cases hp : ordB xs with
  | false =>
    have HC := Lib.hid (orderFrom_no ao ca xs w hl hp hx)
    clear hp hx
    go_enter Try.func32, Try.ntmps32
    go_wp2_with fail
    refine HC.out.mono ?_
    rintro e w1 ⟨rfl, hb⟩
    go_wp2
    go_ret2
    exact ⟨.slice none 0 0, rfl, World.ownsRow_nil _ _ _ _, hb.alloc hb.size _⟩
  | true => exact callsIn_wide.1 (implFirst_in ao ca xs w hp hx)
end Go.Proofs.Ytchbbflpckaddaa

namespace Go.Proofs.Ytchbbflpckaddaa
open Go.RowKit

theorem lit_lists (w : World) : (w.alloc (.cells #[] 23)).ownsRow w.heap.size 23 1 (.slice (some ⟨w.heap.size, 0, none⟩) 0 0) 0 [] :=
  World.ownsRow_lit w #[] 0 (Nat.le_refl _) (by unfold maxLen; omega) rfl

theorem ways_start {ao : Option Addr} {ca : Nat} {xs : List Int} (hp : ordB xs = true) (w : World) (hx : Rd w ao xs) :
    Calls Try.prog 71 #[.slice ao xs.length ca, .slice (some ⟨w.heap.size, 0, none⟩) 0 0, .int .i64 0, .slice (some ⟨w.heap.size + 1, 0, none⟩) 0 0] ((w.alloc (.cells #[] 3)).alloc (.cells #[] 23)) fun e W' =>
      ∃ L' vs, e = .returned L' ∧ WList W' w.heap.size L' vs (waysL xs) ∧ Below w.heap.size w W' := by
  have B2 := below_two w (.cells #[] 3) (.cells #[] 23)
  have hl := lit_lists (w.alloc (.cells #[] 3))
  rw [World.size_alloc] at hl
  have h := l5Ways_any (ca := ca) (ord_yes hp).1 hx xs.length [] 0 w.heap.size 0 (.slice (some ⟨w.heap.size + 1, 0, none⟩) 0 0) [] [] _ (by simp) ⟨0, rfl, Nat.two_pow_pos _⟩ B2 ((row_lit0 w).alloc _)
    ⟨own_mono hl (Nat.le_succ _), rfl, fun k v w hv => by simp at hv⟩ (by
      have := (ways_some hp).2
      rw [List.nil_append]
      show (waysL xs).length ≤ 1000
      omega)
  rw [List.nil_append] at h
  refine h.mono ?_
  rintro e W' ⟨L', vs, rfl, hw, hg, _⟩
  exact ⟨L', vs, rfl, hw, B2.trans (grown_below hg B2.size (fun q hq => by cases hq; exact Nat.le_succ _))⟩

theorem specOrderWays_any (ao : Option Addr) (ca : Nat) (xs : List Int) (w : World) (hl : xs.length ≤ 1048576) (hx : Rd w ao xs) :
    Calls Try.prog 34 #[.slice ao xs.length ca] w fun e w' => e = .returned (.tuple #[.int .i64 (waysN xs), .bool (ordB xs)]) ∧ Below w.heap.size w w' := by
  have h1 := specOrderIn_any ao ca xs w hl hx
  unfold waysN
  cases hp : ordB xs with
  | false =>
    rw [hp] at h1
    have H1 := Lib.hid h1
    clear h1 hp hx
    go_enter Try.func34, Try.ntmps34
    go_wp2_with fail
    refine H1.out.mono ?_
    rintro e w1 ⟨rfl, hb⟩
    go_wp2
    go_ret2
    exact ⟨rfl, hb⟩
  | true =>
    rw [hp] at h1
    have H1 := Lib.hid h1
    have HW := Lib.hid (fun w h => ways_start (ao := ao) (ca := ca) hp w h)
    have hwl := ways_some hp
    clear h1 hp
    go_enter Try.func34, Try.ntmps34
    go_wp2_with fail
    refine H1.out.mono ?_
    rintro e w1 ⟨rfl, hb⟩
    have hx1 := hx.below hb
    clear hx
    go_wp2_with fail
    refine (HW.out _ hx1).mono ?_
    rintro e w2 ⟨L', vs, rfl, hw, hb2⟩
    have hvl := hw.len
    obtain ⟨g, cap, rfl⟩ := form_one hw.row (by omega)
    have HF := Lib.hid (And.intro hvl (hb.trans (hb2.mono hb.size)))
    clear hw hb2 hb hvl
    go_wp2
    go_ret2
    exact ⟨by rw [HF.out.1]; rfl, HF.out.2⟩

theorem specOrderFirst_any (ao : Option Addr) (ca : Nat) (xs : List Int) (w : World) (hl : xs.length ≤ 1048576) (hx : Rd w ao xs) :
    Calls Try.prog 37 #[.slice ao xs.length ca] w (Gave w (ifR (ordB xs) (firstL xs)) (ordB xs)) := by
  have h1 := specOrderIn_any ao ca xs w hl hx
  cases hp : ordB xs with
  | false =>
    rw [hp] at h1
    have H1 := Lib.hid h1
    clear h1 hp hx
    go_enter Try.func37, Try.ntmps37
    go_wp2_with fail
    refine H1.out.mono ?_
    rintro e w1 ⟨rfl, hb⟩
    have hr := own_mono (row_lit0 w1) hb.size
    go_wp2
    go_ret2
    exact ⟨_, rfl, hr, hb.alloc hb.size _⟩
  | true =>
    rw [hp] at h1
    have H1 := Lib.hid h1
    have HW := Lib.hid (fun w h => ways_start (ao := ao) (ca := ca) hp w h)
    have hwl := ways_some hp
    clear h1 hp
    go_enter Try.func37, Try.ntmps37
    go_wp2_with fail
    refine H1.out.mono ?_
    rintro e w1 ⟨rfl, hb⟩
    have hx1 := hx.below hb
    clear hx
    go_wp2_with fail
    refine (HW.out _ hx1).mono ?_
    rintro e w2 ⟨L', vs, rfl, hw, hb2⟩
    have hvl := hw.len
    obtain ⟨v0, vr, rfl⟩ : ∃ v0 vr, vs = v0 :: vr := by
      cases vs with
      | nil => simp at hvl; omega
      | cons a b => exact ⟨a, b, rfl⟩
    obtain ⟨x0, xr, hxe⟩ : ∃ x0 xr, waysL xs = x0 :: xr := by
      cases hq : waysL xs with
      | nil => rw [hq] at hwl; simp at hwl
      | cons a b => exact ⟨a, b, rfl⟩
    have h0 := hw.each 0 v0 x0 rfl (by rw [hxe]; rfl)
    obtain ⟨g, cap, rfl⟩ := form_one hw.row (by simp)
    have hc := hw.row.cellAt 0 (by simp)
    have hc : w2.cell? ⟨g, 0, none⟩ = some v0 := hc
    have hfe := first_eq hxe
    have HF := Lib.hid (And.intro (own_mono h0 hb.size) (And.intro (hb.trans (hb2.mono hb.size)) hfe))
    have hlen : (0 : Int) < ((v0 :: vr).length : Int) := by rw [List.length_cons]; omega
    obtain ⟨n, hn⟩ : ∃ n, (v0 :: vr).length = n := ⟨_, rfl⟩
    rw [hn] at hlen ⊢
    clear hw hb2 hb hvl h0 hxe hn hwl hfe
    go_wp2
    go_ret2
    exact ⟨v0, rfl, by rw [HF.out.2.2]; exact HF.out.1, HF.out.2.1⟩

theorem first_len {xs : List Int} (h : ordB xs = true) : (firstL xs).length = xs.length := by
  have hs := ways_some h
  have hl := fun w (hw : w ∈ waysL xs) => ways_len w hw
  unfold firstL
  cases hq : waysL xs with
  | nil => rw [hq] at hs; simp at hs
  | cons a b => exact hl a (by rw [hq]; simp)
end Go.Proofs.Ytchbbflpckaddaa

namespace Go.Proofs.Ytchbbflpckaddaa
open Go.RowKit

theorem sameInts_eqO (ao bo : Option Addr) (ca cb : Nat) (xs ys : List Int) (w : World) (he : xs = ys) (hl : xs.length ≤ 1048576) (hx : Rd w ao xs) (hy : Rd w bo ys) :
    Calls Try.prog 19 #[.slice ao xs.length ca, .slice bo ys.length cb] w fun e w' => e = .returned (.bool true) ∧ Dn w w' := by
  subst he
  exact sameInts_refl ao bo ca cb xs w hl hx hy

theorem oRel {a : List Int} (h : ordB a = true) : Rl a.length a := by
  unfold ordB at h
  simp only [Bool.and_eq_true] at h
  exact Rl.of h.1
theorem oShort {n : Nat} {a : List Int} (R : Rl n a) : a.length ≤ 1048576 := by
  have := R.len
  have := R.four
  omega
theorem turO {a : List Int} (h : ordB a = true) : ordB (turnL a) = true ∧ (waysL (turnL a)).length = (waysL a).length := by
  have := tur_all a (ord_enum h)
  unfold turF at this
  simpa using this
theorem covO {a : List Int} (h : ordB a = true) : starL (covL a) = a ∧ kindI (covL a) = true ∧ relIn (covL a) = true := by
  have := cov_all a (ord_enum h)
  unfold covF at this
  simp only [Bool.and_eq_true, decide_eq_true_eq] at this
  exact ⟨this.1.1, this.1.2, this.2⟩
theorem oTurned {a : List Int} (h : ordB a = true) (ao : Option Addr) (ca : Nat) (w : World) (hx : Rd w ao a) :
    Calls Try.prog 14 #[.slice ao a.length ca] w (Gave w (turnL a) true) := by
  have := implRelTurned_any ao ca a w (oShort (oRel h)) hx
  rw [(oRel h).ok] at this
  exact this
theorem oOrderIn {a : List Int} (h : ordB a = true) (ao : Option Addr) (ca : Nat) (w : World) (hx : Rd w ao a) :
    Calls Try.prog 12 #[.slice ao a.length ca] w fun e w' => e = .returned (.bool true) ∧ Below w.heap.size w w' := by
  have := implOrderIn_any ao ca a w (oShort (oRel h)) hx
  rw [h] at this
  exact this
theorem oWays {a : List Int} (h : ordB a = true) (ao : Option Addr) (ca : Nat) (w : World) (hx : Rd w ao a) :
    Calls Try.prog 15 #[.slice ao a.length ca] w fun e w' => e = .returned (.tuple #[.int .i64 (waysN a), .bool true]) ∧ Below w.heap.size w w' := by
  have := implOrderWays_any ao ca a w (oShort (oRel h)) hx
  rw [h] at this
  exact this
theorem oWaysT {a : List Int} (h : ordB a = true) (ao : Option Addr) (ca : Nat) (w : World) (hx : Rd w ao (turnL a)) :
    Calls Try.prog 15 #[.slice ao (turnL a).length ca] w fun e w' => e = .returned (.tuple #[.int .i64 (waysN a), .bool true]) ∧ Below w.heap.size w w' := by
  have := oWays (turO h).1 ao ca w hx
  rw [show waysN (turnL a) = waysN a by unfold waysN; rw [h, (turO h).1, (turO h).2]] at this
  exact this
theorem oStar {a : List Int} (h : ordB a = true) (ao : Option Addr) (ca : Nat) (w : World) (hx : Rd w ao (covL a)) :
    Calls Try.prog 20 #[.slice ao (covL a).length ca] w (Gave w (starL (covL a)) true) := by
  have R := Rl.of (covO h).2.2
  have := implCompStar_any ao ca (covL a) w (oShort R) hx
  rw [(covO h).2.2] at this
  exact this
theorem allOne {xs : List Int} (c : UInt8) : allK xs ⟨#[c]⟩ = kindB c.toNat xs := by
  unfold allK
  show (List.range 1).all (fun i => kindB (byt ⟨#[c]⟩ i) xs) = _
  rw [show List.range 1 = [0] from rfl]
  show (kindB (byt ⟨#[c]⟩ 0) xs && true) = _
  rw [Bool.and_true]
  rfl
theorem oKindI {a : List Int} (h : ordB a = true) (ao : Option Addr) (ca : Nat) (w : World) (hx : Rd w ao (covL a)) :
    Calls Try.prog 21 #[.slice ao (covL a).length ca, .string ⟨#[105]⟩] w fun e w' => e = .returned (.bool true) ∧ Below w.heap.size w w' := by
  have R := Rl.of (covO h).2.2
  have := implKindIn_any ao ca (covL a) ⟨#[105]⟩ w (oShort R) (by decide) hx
  rw [show kindInB (covL a) ⟨#[105]⟩ = true by
    unfold kindInB
    rw [(covO h).2.2, show textTo ⟨#[105]⟩ risat (⟨#[105]⟩ : ByteArray).size = true by decide +kernel]
    rw [allOne]
    exact (covO h).2.1] at this
  exact this
theorem turn_lenO {a : List Int} (h : ordB a = true) : (turnL a).length = a.length := (oRel h).turn.len
theorem latO {a : List Int} (h : latB a = true) : ordB a = true ∧ latB (turnL a) = true ∧ rowAt (firstL a) 0 = (((bndO a 0).getD 0 : Nat) : Int) ∧ (bndO a 0).isSome = true := by
  unfold latB at h
  rw [Bool.and_eq_true] at h
  have := lat_all a (ord_enum h.1)
  unfold latF at this
  rw [h.2] at this
  simp only [Bool.not_true, Bool.false_or, Bool.and_eq_true, decide_eq_true_eq] at this
  refine ⟨h.1, ?_, this.1.2, this.2⟩
  unfold latB
  rw [(turO h.1).1, turn_lenO h.1, this.1.1]
  rfl
theorem oLatT {a : List Int} (h : latB a = true) (ao : Option Addr) (ca : Nat) (w : World) (hx : Rd w ao (turnL a)) :
    Calls Try.prog 30 #[.slice ao (turnL a).length ca] w fun e w' => e = .returned (.bool true) ∧ Below w.heap.size w w' := by
  have := implOrderLattice_any ao ca (turnL a) w (oShort (oRel (turO (latO h).1).1)) hx
  rw [(latO h).2.1] at this
  exact this
theorem oFirst {a : List Int} (h : ordB a = true) (ao : Option Addr) (ca : Nat) (w : World) (hx : Rd w ao a) :
    Calls Try.prog 32 #[.slice ao a.length ca] w (Gave w (firstL a) true) := by
  have := implOrderFirst_any ao ca a w (oShort (oRel h)) hx
  rw [h] at this
  exact this
theorem oBound0 {a : List Int} (h : latB a = true) (ao : Option Addr) (ca : Nat) (w : World) (hx : Rd w ao a) :
    Calls Try.prog 27 #[.slice ao a.length ca, .int .i64 0] w fun e w' => e = .returned (.tuple #[.int .i64 (rowAt (firstL a) 0), .bool true]) ∧ Below w.heap.size w w' := by
  have := implOrderBound_any ao ca a 0 w (oShort (oRel (latO h).1)) hx
  have h0 : ordO a 0 = bndO a 0 := by
    unfold ordO ordS
    rw [(latO h).1, show rowIn a.length 0 = true by unfold rowIn; simp; exact Int.pow_pos (by decide)]
    rfl
  rw [h0, (latO h).2.2.2, ← (latO h).2.2.1] at this
  exact this
theorem oSame {n : Nat} (h1 : 1 ≤ n) (h4 : n ≤ 4) (w : World) : Calls Try.prog 35 #[.int .i64 n] w (Gave w (sameL n) true) := by
  have := implRelSame_any (n : Int) w
  rw [show inB (n : Int) 1 4 = true from decide_eq_true ⟨by omega, by omega⟩] at this
  exact this
theorem oKindC {a : List Int} (h : ordB a = true) (ao : Option Addr) (ca : Nat) (w : World) (hx : Rd w ao a) :
    Calls Try.prog 21 #[.slice ao a.length ca, .string ⟨#[99]⟩] w fun e w' => e = .returned (.bool (kindC a)) ∧ Below w.heap.size w w' := by
  have R := oRel h
  have := implKindIn_any ao ca a ⟨#[99]⟩ w (oShort R) (by decide) hx
  rw [show kindInB a ⟨#[99]⟩ = kindC a by
    unfold kindInB
    rw [R.ok, show textTo ⟨#[99]⟩ risat (⟨#[99]⟩ : ByteArray).size = true by decide +kernel]
    rw [allOne]
    rfl] at this
  exact this
theorem wayO {a : List Int} (h : ordB a = true) : ∃ n : Nat, waysN a = (n : Int) ∧ 1 ≤ n ∧ n ≤ facN a.length ∧ decide (n = facN a.length) = decide (a = sameL a.length) ∧ decide (n = 1) = kindC a := by
  have hw := wayF_all a (ord_enum h)
  unfold wayF at hw
  simp only [Bool.and_eq_true, decide_eq_true_eq, beq_iff_eq] at hw
  refine ⟨(waysL a).length, by unfold waysN; rw [h]; rfl, ?_, hw.1.1, hw.1.2, hw.2⟩
  have hf := first_len h
  unfold firstL at hf
  have := (oRel h).one
  cases hl : waysL a with
  | nil => rw [hl] at hf; simp at hf; omega
  | cons x r => simp
end Go.Proofs.Ytchbbflpckaddaa

namespace Go.Proofs.Ytchbbflpckaddaa
open Go.RowKit

theorem seenW_succ {f : List Int} {k : Nat} (h : k < f.length) : seenW f (k + 1) = bits .or .i64 (seenW f k) (2 ^ (rowAt f k).toNat) := by
  unfold seenW
  rw [List.take_add_one, rowAt_get h, List.foldl_append]
  rfl
theorem oneO {a : List Int} (h : ordB a = true) : (∀ k, k < a.length → ∃ t : Nat, t < a.length ∧ rowAt (firstL a) k = (t : Int) ∧ (bits .and .i64 (rowAt a t) (seenW (firstL a) k) != 0) = false ∧ bitB (seenW (firstL a) k) t = false ∧ seenW (firstL a) (k + 1) = bits .or .i64 (seenW (firstL a) k) (2 ^ t)) ∧ seenW (firstL a) a.length = 2 ^ a.length - 1 := by
  have hw := one_all a (ord_enum h)
  unfold oneF at hw
  simp only [Bool.and_eq_true, decide_eq_true_eq, List.all_eq_true, List.mem_range, beq_iff_eq, Bool.not_eq_true'] at hw
  refine ⟨fun k hk => ?_, hw.2⟩
  obtain ⟨⟨⟨g0, g1⟩, g2⟩, g3⟩ := hw.1.2 k hk
  have hs := seenW_succ (f := firstL a) (k := k) (by rw [first_len h]; exact hk)
  have e0 : rowAt (firstL a) k = ((rowAt (firstL a) k).toNat : Int) := by
    have : 0 ≤ rowAt (firstL a) k := g0
    omega
  refine ⟨(rowAt (firstL a) k).toNat, ?_, e0, ?_, g3, hs⟩
  · have : rowAt (firstL a) k < a.length := g1
    omega
  · rw [show bits .and .i64 (rowAt a (rowAt (firstL a) k).toNat) (seenW (firstL a) k) = 0 from g2]
    rfl
end Go.Proofs.Ytchbbflpckaddaa

namespace Go.Proofs.Ytchbbflpckaddaa
open Go.RowKit

theorem fnOrder_long (ao : Option Addr) (cap n : Nat) (w : World) (hm : n ≤ maxLen) (hl : ¬ n ≤ 1048576) :
    Calls Try.prog 3 #[.slice ao n cap] w fun e w' => e = .returned (.bool true) ∧ Below w.heap.size w w' := by
  unfold maxLen at hm
  go_enter Try.func3, Try.ntmps3
  go_wp2
  go_ret
  exact ⟨rfl, Below.refl _ _⟩

set_option maxHeartbeats 8000000 in
theorem fnOrder_walk (ao : Option Addr) (c : Nat) (bs : List Nat) (w : World) (hl : bs.length ≤ 1048576) (hb : RdB w ao bs) (hc : bs.length ≤ c) (hbA : bs ≠ [] → ∀ a, ao = some a → a.block < w.heap.size) :
    Calls Try.prog 3 #[.slice ao bs.length c] w fun e w' => e = .returned (.bool true) ∧ Below w.heap.size w w' := by
  have HD := Lib.hid (drawOrderIn_any ao c bs w hb hc hbA)
  clear hb hbA
  go_enter Try.func3, Try.ntmps3
  go_wp2_with fail
  refine HD.out.mono ?_
  rintro e w1 ⟨v, a, rfl, hrl, ho1, B1⟩
  obtain ⟨aa, ac, rfl, ra⟩ := row_rd ho1
  have hl1 : a.length ≤ 1048576 := by omega
  clear ho1 HD
  cases hp : ordB a with
  | false =>
    have hI := (fun w h => implOrderIn_any aa ac a w hl1 h)
    have hS := (fun w h => specOrderIn_any aa ac a w hl1 h)
    rw [hp] at hI hS
    have HC := Lib.hid (And.intro hI hS)
    clear hI hS hp
    go_wp2_with fail
    refine (HC.out.1 _ ra).mono ?_
    rintro e w2 ⟨rfl, b2⟩
    have B2 := B1.trans (b2.mono B1.size)
    have ra2 := ra.below b2
    clear b2 B1 ra
    go_wp2_with fail
    refine (HC.out.2 _ ra2).mono ?_
    rintro e w3 ⟨rfl, b3⟩
    have B3 := B2.trans (b3.mono B2.size)
    clear b3 B2 ra2
    go_wp2
    go_ret
    exact ⟨rfl, B3⟩
  | true =>
    have hI := (fun w h => implOrderIn_any aa ac a w hl1 h)
    have hS := (fun w h => specOrderIn_any aa ac a w hl1 h)
    rw [hp] at hI hS
    have K0 := fun ao ca w h => oTurned hp ao ca w h
    have Q0 := fun ao ca w h => oWays hp ao ca w h
    have Q1 := fun ao ca w h => oWaysT hp ao ca w h
    have Q2 := fun ao ca w h => oOrderIn (turO hp).1 ao ca w h
    have Lx : (turnL a).length ≤ 1048576 := oShort (oRel (turO hp).1)
    obtain ⟨lx, Ex⟩ : ∃ l, turnL a = l := ⟨_, rfl⟩
    try rw [Ex] at hI
    try rw [Ex] at hS
    try rw [Ex] at K0
    try rw [Ex] at Q0
    try rw [Ex] at Q1
    try rw [Ex] at Q2
    try rw [Ex] at Lx
    have HhI := Lib.hid hI
    have HhS := Lib.hid hS
    have HK0 := Lib.hid K0
    have HQ0 := Lib.hid Q0
    have HQ1 := Lib.hid Q1
    have HQ2 := Lib.hid Q2
    clear hI hS K0 Q0 Q1 Q2 hp  Ex
    go_wp2_with fail
    refine (HhI.out _ ra).mono ?_
    rintro e w2 ⟨rfl, b2⟩
    have B2 := B1.trans (b2.mono B1.size)
    have ra_2 := ra.below b2
    clear b2 B1 ra
    go_wp2_with fail
    refine (HhS.out _ ra_2).mono ?_
    rintro e w3 ⟨rfl, b3⟩
    have B3 := B2.trans (b3.mono B2.size)
    have ra_3 := ra_2.below b3
    clear b3 B2 ra_2
    go_wp2_with fail
    refine (HK0.out aa ac _ ra_3).mono ?_
    rintro e w4 ⟨v, rfl, ho, b4⟩
    obtain ⟨xa, xc, rfl, rx_4⟩ := row_rd ho
    have B4 := B3.trans (b4.mono B3.size)
    have ra_4 := ra_3.below b4
    clear ho b4 B3 ra_3
    go_wp2_with fail
    refine (HQ0.out aa ac _ ra_4).mono ?_
    rintro e w5 ⟨rfl, b5⟩
    have B5 := B4.trans (b5.mono B4.size)
    have ra_5 := ra_4.below b5
    have rx_5 := rx_4.below b5
    clear b5 B4 ra_4 rx_4
    go_wp2_with fail
    refine (HQ1.out xa xc _ rx_5).mono ?_
    rintro e w6 ⟨rfl, b6⟩
    have B6 := B5.trans (b6.mono B5.size)
    have ra_6 := ra_5.below b6
    have rx_6 := rx_5.below b6
    clear b6 B5 ra_5 rx_5
    go_wp2_with fail
    refine (HQ2.out xa xc _ rx_6).mono ?_
    rintro e w7 ⟨rfl, b7⟩
    have B7 := B6.trans (b7.mono B6.size)
    have ra_7 := ra_6.below b7
    have rx_7 := rx_6.below b7
    clear b7 B6 ra_6 rx_6
    go_wp2
    go_ret
    exact ⟨rfl, B7⟩
end Go.Proofs.Ytchbbflpckaddaa

namespace Go.Proofs.Ytchbbflpckaddaa
open Go.RowKit

theorem fnCovers_long (ao : Option Addr) (cap n : Nat) (w : World) (hm : n ≤ maxLen) (hl : ¬ n ≤ 1048576) :
    Calls Try.prog 4 #[.slice ao n cap] w fun e w' => e = .returned (.bool true) ∧ Below w.heap.size w w' := by
  unfold maxLen at hm
  go_enter Try.func4, Try.ntmps4
  go_wp2
  go_ret
  exact ⟨rfl, Below.refl _ _⟩

set_option maxHeartbeats 8000000 in
theorem fnCovers_walk (ao : Option Addr) (c : Nat) (bs : List Nat) (w : World) (hl : bs.length ≤ 1048576) (hb : RdB w ao bs) (hc : bs.length ≤ c) (hbA : bs ≠ [] → ∀ a, ao = some a → a.block < w.heap.size) :
    Calls Try.prog 4 #[.slice ao bs.length c] w fun e w' => e = .returned (.bool true) ∧ Below w.heap.size w w' := by
  have HD := Lib.hid (drawOrderCovers_any ao c bs w hb hc hbA)
  clear hb hbA
  go_enter Try.func4, Try.ntmps4
  go_wp2_with fail
  refine HD.out.mono ?_
  rintro e w1 ⟨v, a, rfl, hrl, ho1, B1⟩
  obtain ⟨aa, ac, rfl, ra⟩ := row_rd ho1
  have hl1 : a.length ≤ 1048576 := by omega
  clear ho1 HD
  cases hp : ordB a with
  | false =>
    have hI := (fun w h => implOrderCovers_any aa ac a w hl1 h)
    have hS := (fun w h => specOrderCovers_any aa ac a w hl1 h)
    rw [hp] at hI hS
    have HC := Lib.hid (And.intro hI hS)
    clear hI hS hp
    go_wp2_with fail
    refine (HC.out.1 _ ra).mono ?_
    rintro e w2 ⟨v, rfl, ho, b2⟩
    obtain ⟨oa, oc, rfl, ro⟩ := row_rd (xs := ifR false (covL a)) ho
    have B2 := B1.trans (b2.mono B1.size)
    have ra2 := ra.below b2
    clear ho b2 B1 ra
    go_wp2_with fail
    refine (HC.out.2 _ ra2).mono ?_
    rintro e w3 ⟨v, rfl, ho, b3⟩
    obtain ⟨wa, wc, rfl, rw3⟩ := row_rd (xs := ifR false (covL a)) ho
    have B3 := B2.trans (b3.mono B2.size)
    have ro3 := ro.below b3
    clear ho b3 B2 ro ra2
    go_wp2_with fail
    refine (sameInts_refl _ _ _ _ _ _ (by simp [ifR]) ro3 rw3).mono ?_
    rintro e w4 ⟨rfl, d4⟩
    go_wp2_with fail
    refine (sameInts_refl _ _ _ _ _ _ (by simp [ifR]) (d4.rd ro3) (d4.rd rw3)).mono ?_
    rintro e w5 ⟨rfl, d5⟩
    go_wp2
    go_ret
    exact ⟨rfl, B3.trans ((d4.trans d5).below _)⟩
  | true =>
    have hI := (fun w h => implOrderCovers_any aa ac a w hl1 h)
    have hS := (fun w h => specOrderCovers_any aa ac a w hl1 h)
    rw [hp] at hI hS
    rw [show ifR true (covL a) = covL a from rfl] at hI hS
    have K0 := fun ao ca w h => oStar hp ao ca w h
    have Q0 := (covO hp).1
    have Q1 := fun ao ca w h => oKindI hp ao ca w h
    have Lo : (covL a).length ≤ 1048576 := oShort (Rl.of (covO hp).2.2)
    have Lx : (starL (covL a)).length ≤ 1048576 := by rw [(covO hp).1]; exact hl1
    obtain ⟨lo, Eo⟩ : ∃ l, covL a = l := ⟨_, rfl⟩
    try rw [Eo] at hI
    try rw [Eo] at hS
    try rw [Eo] at K0
    try rw [Eo] at Q0
    try rw [Eo] at Q1
    try rw [Eo] at Lo
    try rw [Eo] at Lx
    obtain ⟨lx, Ex⟩ : ∃ l, starL lo = l := ⟨_, rfl⟩
    try rw [Ex] at hI
    try rw [Ex] at hS
    try rw [Ex] at K0
    try rw [Ex] at Q0
    try rw [Ex] at Q1
    try rw [Ex] at Lo
    try rw [Ex] at Lx
    have HhI := Lib.hid hI
    have HhS := Lib.hid hS
    have HK0 := Lib.hid K0
    have HQ0 := Lib.hid Q0
    have HQ1 := Lib.hid Q1
    clear hI hS K0 Q0 Q1 hp  Eo Ex
    go_wp2_with fail
    refine (HhI.out _ ra).mono ?_
    rintro e w2 ⟨v, rfl, ho, b2⟩
    obtain ⟨oa, oc, rfl, ro_2⟩ := row_rd ho
    have B2 := B1.trans (b2.mono B1.size)
    have ra_2 := ra.below b2
    clear ho b2 B1 ra
    go_wp2_with fail
    refine (HhS.out _ ra_2).mono ?_
    rintro e w3 ⟨v, rfl, ho, b3⟩
    obtain ⟨wa, wc, rfl, rw_3⟩ := row_rd ho
    have B3 := B2.trans (b3.mono B2.size)
    have ra_3 := ra_2.below b3
    have ro_3 := ro_2.below b3
    clear ho b3 B2 ra_2 ro_2
    go_wp2_with fail
    refine (sameInts_refl oa wa oc wc _ _ Lo ro_3 rw_3).mono ?_
    rintro e w4 ⟨rfl, d4⟩
    have B4 := B3.trans (d4.below _)
    have ra_4 := d4.rd ra_3
    have ro_4 := d4.rd ro_3
    have rw_4 := d4.rd rw_3
    clear d4 B3 ra_3 ro_3 rw_3
    go_wp2_with fail
    refine (HK0.out oa oc _ ro_4).mono ?_
    rintro e w5 ⟨v, rfl, ho, b5⟩
    obtain ⟨xa, xc, rfl, rx_5⟩ := row_rd ho
    have B5 := B4.trans (b5.mono B4.size)
    have ra_5 := ra_4.below b5
    have ro_5 := ro_4.below b5
    have rw_5 := rw_4.below b5
    clear ho b5 B4 ra_4 ro_4 rw_4
    go_wp2_with fail
    refine (sameInts_eqO xa aa xc ac _ _ _ HQ0.out (by have := HQ0.out; have := Lx; first | assumption | omega) rx_5 ra_5).mono ?_
    rintro e w6 ⟨rfl, d6⟩
    have B6 := B5.trans (d6.below _)
    have ra_6 := d6.rd ra_5
    have ro_6 := d6.rd ro_5
    have rw_6 := d6.rd rw_5
    have rx_6 := d6.rd rx_5
    clear d6 B5 ra_5 ro_5 rw_5 rx_5
    go_wp2_with fail
    refine (HQ1.out oa oc _ ro_6).mono ?_
    rintro e w7 ⟨rfl, b7⟩
    have B7 := B6.trans (b7.mono B6.size)
    have ra_7 := ra_6.below b7
    have ro_7 := ro_6.below b7
    have rw_7 := rw_6.below b7
    have rx_7 := rx_6.below b7
    clear b7 B6 ra_6 ro_6 rw_6 rx_6
    go_wp2
    go_ret
    exact ⟨rfl, B7⟩
end Go.Proofs.Ytchbbflpckaddaa

namespace Go.Proofs.Ytchbbflpckaddaa
open Go.RowKit

theorem fnLattice_long (ao : Option Addr) (cap n : Nat) (w : World) (hm : n ≤ maxLen) (hl : ¬ n ≤ 1048576) :
    Calls Try.prog 7 #[.slice ao n cap] w fun e w' => e = .returned (.bool true) ∧ Below w.heap.size w w' := by
  unfold maxLen at hm
  go_enter Try.func7, Try.ntmps7
  go_wp2
  go_ret
  exact ⟨rfl, Below.refl _ _⟩

set_option maxHeartbeats 8000000 in
theorem fnLattice_walk (ao : Option Addr) (c : Nat) (bs : List Nat) (w : World) (hl : bs.length ≤ 1048576) (hb : RdB w ao bs) (hc : bs.length ≤ c) (hbA : bs ≠ [] → ∀ a, ao = some a → a.block < w.heap.size) :
    Calls Try.prog 7 #[.slice ao bs.length c] w fun e w' => e = .returned (.bool true) ∧ Below w.heap.size w w' := by
  have HD := Lib.hid (drawOrderLattice_any ao c bs w hb hc hbA)
  clear hb hbA
  go_enter Try.func7, Try.ntmps7
  go_wp2_with fail
  refine HD.out.mono ?_
  rintro e w1 ⟨v, a, rfl, hrl, ho1, B1⟩
  obtain ⟨aa, ac, rfl, ra⟩ := row_rd ho1
  have hl1 : a.length ≤ 1048576 := by omega
  clear ho1 HD
  cases hp : latB a with
  | false =>
    have hI := (fun w h => implOrderLattice_any aa ac a w hl1 h)
    have hS := (fun w h => specOrderLattice_any aa ac a w hl1 h)
    rw [hp] at hI hS
    have HC := Lib.hid (And.intro hI hS)
    clear hI hS hp
    go_wp2_with fail
    refine (HC.out.1 _ ra).mono ?_
    rintro e w2 ⟨rfl, b2⟩
    have B2 := B1.trans (b2.mono B1.size)
    have ra2 := ra.below b2
    clear b2 B1 ra
    go_wp2_with fail
    refine (HC.out.2 _ ra2).mono ?_
    rintro e w3 ⟨rfl, b3⟩
    have B3 := B2.trans (b3.mono B2.size)
    clear b3 B2 ra2
    go_wp2
    go_ret
    exact ⟨rfl, B3⟩
  | true =>
    have hI := (fun w h => implOrderLattice_any aa ac a w hl1 h)
    have hS := (fun w h => specOrderLattice_any aa ac a w hl1 h)
    rw [hp] at hI hS
    have K0 := fun ao ca w h => oTurned (latO hp).1 ao ca w h
    have K1 := fun ao ca w h => oFirst (latO hp).1 ao ca w h
    have Q0 := fun ao ca w h => oBound0 hp ao ca w h
    have Q1 := fun ao ca w h => oLatT hp ao ca w h
    have Q2 : 0 < (firstL a).length := by rw [first_len (latO hp).1]; exact (oRel (latO hp).1).one
    have Lx : (turnL a).length ≤ 1048576 := oShort (oRel (turO (latO hp).1).1)
    have Lf : (firstL a).length ≤ 1048576 := by rw [first_len (latO hp).1]; exact hl1
    obtain ⟨lx, Ex⟩ : ∃ l, turnL a = l := ⟨_, rfl⟩
    try rw [Ex] at hI
    try rw [Ex] at hS
    try rw [Ex] at K0
    try rw [Ex] at K1
    try rw [Ex] at Q0
    try rw [Ex] at Q1
    try rw [Ex] at Q2
    try rw [Ex] at Lx
    try rw [Ex] at Lf
    obtain ⟨lf, Ef⟩ : ∃ l, firstL a = l := ⟨_, rfl⟩
    try rw [Ef] at hI
    try rw [Ef] at hS
    try rw [Ef] at K0
    try rw [Ef] at K1
    try rw [Ef] at Q0
    try rw [Ef] at Q1
    try rw [Ef] at Q2
    try rw [Ef] at Lx
    try rw [Ef] at Lf
    have HhI := Lib.hid hI
    have HhS := Lib.hid hS
    have HK0 := Lib.hid K0
    have HK1 := Lib.hid K1
    have HQ0 := Lib.hid Q0
    have HQ1 := Lib.hid Q1
    have HQ2 := Lib.hid Q2
    clear hI hS K0 K1 Q0 Q1 Q2 hp  Ex Ef
    go_wp2_with fail
    refine (HhI.out _ ra).mono ?_
    rintro e w2 ⟨rfl, b2⟩
    have B2 := B1.trans (b2.mono B1.size)
    have ra_2 := ra.below b2
    clear b2 B1 ra
    go_wp2_with fail
    refine (HhS.out _ ra_2).mono ?_
    rintro e w3 ⟨rfl, b3⟩
    have B3 := B2.trans (b3.mono B2.size)
    have ra_3 := ra_2.below b3
    clear b3 B2 ra_2
    go_wp2_with fail
    refine (HK0.out aa ac _ ra_3).mono ?_
    rintro e w4 ⟨v, rfl, ho, b4⟩
    obtain ⟨xa, xc, rfl, rx_4⟩ := row_rd ho
    have B4 := B3.trans (b4.mono B3.size)
    have ra_4 := ra_3.below b4
    clear ho b4 B3 ra_3
    go_wp2_with fail
    refine (HK1.out aa ac _ ra_4).mono ?_
    rintro e w5 ⟨v, rfl, ho, b5⟩
    obtain ⟨fa, fc, rfl, rf_5⟩ := row_rd ho
    have B5 := B4.trans (b5.mono B4.size)
    have ra_5 := ra_4.below b5
    have rx_5 := rx_4.below b5
    clear ho b5 B4 ra_4 rx_4
    go_wp2_with fail
    refine (HQ0.out aa ac _ ra_5).mono ?_
    rintro e w6 ⟨rfl, b6⟩
    have B6 := B5.trans (b6.mono B5.size)
    have ra_6 := ra_5.below b6
    have rx_6 := rx_5.below b6
    have rf_6 := rf_5.below b6
    clear b6 B5 ra_5 rx_5 rf_5
    go_wp2_with fail
    refine (HQ1.out xa xc _ rx_6).mono ?_
    rintro e w7 ⟨rfl, b7⟩
    have B7 := B6.trans (b7.mono B6.size)
    have ra_7 := ra_6.below b7
    have rx_7 := rx_6.below b7
    have rf_7 := rf_6.below b7
    clear b7 B6 ra_6 rx_6 rf_6
    have hp2 := HQ2.out
    obtain ⟨fb, foff, fx, hxk, rfl, hbl, hc1⟩ := rf_7.get 0 hp2
    have hxe : rowAt lf 0 = fx := by have := rowAt_get hp2; rw [hxk] at this; exact (Option.some.inj this).symm
    have hi1 : (0 : Int) < (lf.length : Int) := by omega
    have hc2 := hc1
    rw [Nat.add_zero] at hc2
    rw [hxe]
    go_wp2
    go_ret
    exact ⟨rfl, B7⟩
end Go.Proofs.Ytchbbflpckaddaa

namespace Go.Proofs.Ytchbbflpckaddaa
open Go.RowKit

theorem fnWays_long (ao : Option Addr) (cap n : Nat) (w : World) (hm : n ≤ maxLen) (hl : ¬ n ≤ 1048576) :
    Calls Try.prog 8 #[.slice ao n cap] w fun e w' => e = .returned (.bool true) ∧ Below w.heap.size w w' := by
  unfold maxLen at hm
  go_enter Try.func8, Try.ntmps8
  go_wp2
  go_ret
  exact ⟨rfl, Below.refl _ _⟩

set_option maxHeartbeats 8000000 in
theorem fnWays_walk (ao : Option Addr) (c : Nat) (bs : List Nat) (w : World) (hl : bs.length ≤ 1048576) (hb : RdB w ao bs) (hc : bs.length ≤ c) (hbA : bs ≠ [] → ∀ a, ao = some a → a.block < w.heap.size) :
    Calls Try.prog 8 #[.slice ao bs.length c] w fun e w' => e = .returned (.bool true) ∧ Below w.heap.size w w' := by
  have HD := Lib.hid (drawOrderWays_any ao c bs w hb hc hbA)
  clear hb hbA
  go_enter Try.func8, Try.ntmps8
  go_wp2_with fail
  refine HD.out.mono ?_
  rintro e w1 ⟨v, a, rfl, hrl, ho1, B1⟩
  obtain ⟨aa, ac, rfl, ra⟩ := row_rd ho1
  have hl1 : a.length ≤ 1048576 := by omega
  clear ho1 HD
  have hI := fun w h => implOrderWays_any aa ac a w hl1 h
  have hS := fun w h => specOrderWays_any aa ac a w hl1 h
  cases hp : ordB a with
  | false =>
    obtain ⟨n, hn⟩ : ∃ n, waysN a = n := ⟨_, rfl⟩
    rw [hp, hn] at hI hS
    have HI := Lib.hid hI
    have HS := Lib.hid hS
    clear hI hS hp hn
    go_wp2_with fail
    refine (HI.out _ ra).mono ?_
    rintro e w2 ⟨rfl, b2⟩
    have r2 := ra.below b2
    have B2 := B1.trans (b2.mono B1.size)
    clear b2 B1 ra
    go_wp2_with fail
    refine (HS.out _ r2).mono ?_
    rintro e w3 ⟨rfl, b3⟩
    have B3 := B2.trans (b3.mono B2.size)
    clear b3 B2 r2
    go_wp2
    go_ret
    exact ⟨rfl, B3⟩
  | true =>
    obtain ⟨n, hn, hn1, hn2, hn3, hn4⟩ := wayO hp
    rw [hp, hn] at hI hS
    have h1 := (oRel hp).one
    have h4 : a.length ≤ 4 := (oRel hp).four
    have hM := fun w => oSame h1 h4 w
    have hsl : (sameL a.length).length ≤ 1048576 := oShort (Rl.same h1 h4)
    have hQ := fun bo cb w h h2 => sameInts_any aa bo ac cb a (sameL a.length) w hl1 hsl h h2
    have hK := fun w h => oKindC hp aa ac w h
    rw [← hn3] at hQ
    rw [← hn4] at hK
    obtain ⟨ls, Es⟩ : ∃ l, sameL a.length = l := ⟨_, rfl⟩
    rw [Es] at hM hQ hsl
    have HC := Lib.hid (And.intro hI (And.intro hS (And.intro hM (And.intro hQ hK))))
    have hfac : facN a.length ≤ 24 := by
      rcases (by omega : a.length = 1 ∨ a.length = 2 ∨ a.length = 3 ∨ a.length = 4) with e | e | e | e <;> rw [e] <;> decide
    clear hI hS hM hQ hK hp hn hn3 hn4 Es
    go_wp2_with fail
    refine (HC.out.1 _ ra).mono ?_
    rintro e w2 ⟨rfl, b2⟩
    have r2 := ra.below b2
    have B2 := B1.trans (b2.mono B1.size)
    clear b2 B1 ra
    go_wp2_with fail
    refine (HC.out.2.1 _ r2).mono ?_
    rintro e w3 ⟨rfl, b3⟩
    have r3 := r2.below b3
    have B3 := B2.trans (b3.mono B2.size)
    clear b3 B2 r2
    go_wp2
    go_loopw [8, 9] (fun al i wr => ∃ k : Nat, 1 ≤ k ∧ k ≤ a.length ∧ i = .int .i64 ((k : Int) + 1) ∧ al = .int .i64 ((facN k : Nat) : Int) ∧ w3 = wr)
      (fun _ i _ => a.length + 1 - (intOf i).toNat)
    case atStart => exact ⟨1, Nat.le_refl _, h1, rfl, rfl, rfl⟩
    case round =>
      obtain ⟨k, hk1, hk, rfl, rfl, rfl⟩ := hrel
      by_cases hlt : k < a.length
      · have hi1 : ((k : Nat) : Int) + 1 ≤ (a.length : Int) := by omega
        have hm : wrap64 (((facN k : Nat) : Int) * ((k : Int) + 1)) = ((facN (k + 1) : Nat) : Int) := by
          rcases (by omega : k = 1 ∨ k = 2 ∨ k = 3) with rfl | rfl | rfl <;> decide +kernel
        have he : wrap64 ((k : Int) + 1 + 1) = ((k + 1 : Nat) : Int) + 1 := by unfold wrap64; omega
        go_wp2
        go_roundw
        case rel => exact ⟨k + 1, by omega, by omega, by go_num, by first | rfl | rw [← hm], by trivial⟩
        case measure => simp [intOf]; omega
      · obtain rfl : k = a.length := by omega
        have hi1 : ¬ ((a.length : Nat) : Int) + 1 ≤ (a.length : Int) := by omega
        obtain ⟨m, hm⟩ : ∃ m, facN a.length = m := ⟨_, rfl⟩
        rw [hm] at hfac hn2 HC ⊢
        have g1 : (n : Int) ≥ 1 := by omega
        have g2 : (n : Int) ≤ (m : Int) := by omega
        have HR := Lib.hid r3
        clear r3 hm
        go_wp2_with fail
        refine (HC.out.2.2.1 _).mono ?_
        rintro e w4 ⟨v, rfl, ho4, b4⟩
        obtain ⟨sa, sc, rfl, rs4⟩ := row_rd ho4
        have B4 := B3.trans (b4.mono B3.size)
        have ra4 := HR.out.below b4
        clear ho4 b4 B3
        go_wp2_with fail
        refine (HC.out.2.2.2.1 sa sc _ ra4 rs4).mono ?_
        rintro e w5 ⟨rfl, d5⟩
        have ra5 := d5.rd ra4
        have B5 := B4.trans (d5.below _)
        clear d5 B4 ra4 rs4
        have e1 : ((n : Int) == (m : Int)) = decide (n = m) := by
          by_cases h : n = m
          · subst h; simp
          · rw [decide_eq_false h]; exact beq_eq_false_iff_ne.2 (by omega)
        have e2 : ((n : Int) == 1) = decide (n = 1) := by
          by_cases h : n = 1
          · subst h; rfl
          · rw [decide_eq_false h]; exact beq_eq_false_iff_ne.2 (by omega)
        have H5 := Lib.hid (HC.out.2.2.2.2 _ ra5)
        cases hd1 : decide (n = m)
        all_goals
          cases hd2 : decide (n = 1)
          all_goals
            rw [hd1] at e1
            rw [hd2] at e2 H5
            clear hd1 hd2
            go_wp2_with fail
            refine H5.out.mono ?_
            rintro e w6 ⟨rfl, b6⟩
            have B6 := B5.trans (b6.mono B5.size)
            clear b6 B5
            go_wp2
            go_ret
            exact ⟨rfl, B6⟩
end Go.Proofs.Ytchbbflpckaddaa

namespace Go.Proofs.Ytchbbflpckaddaa
open Go.RowKit

theorem fnWay_long (ao : Option Addr) (cap n : Nat) (w : World) (hm : n ≤ maxLen) (hl : ¬ n ≤ 1048576) :
    Calls Try.prog 9 #[.slice ao n cap] w fun e w' => e = .returned (.bool true) ∧ Below w.heap.size w w' := by
  unfold maxLen at hm
  go_enter Try.func9, Try.ntmps9
  go_wp2
  go_ret
  exact ⟨rfl, Below.refl _ _⟩

set_option maxHeartbeats 8000000 in
theorem fnWay_walk (ao : Option Addr) (c : Nat) (bs : List Nat) (w : World) (hl : bs.length ≤ 1048576) (hb : RdB w ao bs) (hc : bs.length ≤ c) (hbA : bs ≠ [] → ∀ a, ao = some a → a.block < w.heap.size) :
    Calls Try.prog 9 #[.slice ao bs.length c] w fun e w' => e = .returned (.bool true) ∧ Below w.heap.size w w' := by
  have HD := Lib.hid (drawOrderFirst_any ao c bs w hb hc hbA)
  clear hb hbA
  go_enter Try.func9, Try.ntmps9
  go_wp2_with fail
  refine HD.out.mono ?_
  rintro e w1 ⟨v, a, rfl, hrl, ho1, B1⟩
  obtain ⟨aa, ac, rfl, ra⟩ := row_rd ho1
  have hl1 : a.length ≤ 1048576 := by omega
  clear ho1 HD
  cases hp : ordB a with
  | false =>
    have hI := (fun w h => implOrderFirst_any aa ac a w hl1 h)
    have hS := (fun w h => specOrderFirst_any aa ac a w hl1 h)
    rw [hp] at hI hS
    have HC := Lib.hid (And.intro hI hS)
    clear hI hS hp
    go_wp2_with fail
    refine (HC.out.1 _ ra).mono ?_
    rintro e w2 ⟨v, rfl, ho, b2⟩
    obtain ⟨oa, oc, rfl, ro⟩ := row_rd (xs := ifR false (firstL a)) ho
    have B2 := B1.trans (b2.mono B1.size)
    have ra2 := ra.below b2
    clear ho b2 B1 ra
    go_wp2_with fail
    refine (HC.out.2 _ ra2).mono ?_
    rintro e w3 ⟨v, rfl, ho, b3⟩
    obtain ⟨wa, wc, rfl, rw3⟩ := row_rd (xs := ifR false (firstL a)) ho
    have B3 := B2.trans (b3.mono B2.size)
    have ro3 := ro.below b3
    clear ho b3 B2 ro ra2
    go_wp2_with fail
    refine (sameInts_refl _ _ _ _ _ _ (by simp [ifR]) ro3 rw3).mono ?_
    rintro e w4 ⟨rfl, d4⟩
    go_wp2_with fail
    refine (sameInts_refl _ _ _ _ _ _ (by simp [ifR]) (d4.rd ro3) (d4.rd rw3)).mono ?_
    rintro e w5 ⟨rfl, d5⟩
    go_wp2
    go_ret
    exact ⟨rfl, B3.trans ((d4.trans d5).below _)⟩
  | true =>
    have hI := (fun w h => implOrderFirst_any aa ac a w hl1 h)
    have hS := (fun w h => specOrderFirst_any aa ac a w hl1 h)
    rw [hp] at hI hS
    rw [show ifR true (firstL a) = firstL a from rfl] at hI hS
    have Q0 : (∀ k, k < a.length → ∃ t : Nat, t < a.length ∧ rowAt (firstL a) k = (t : Int) ∧ (bits .and .i64 (rowAt a t) (seenW (firstL a) k) != 0) = false ∧ bitB (seenW (firstL a) k) t = false ∧ seenW (firstL a) (k + 1) = bits .or .i64 (seenW (firstL a) k) (2 ^ t)) ∧ seenW (firstL a) a.length = 2 ^ a.length - 1 := oneO hp
    have Q1 : (firstL a).length = a.length := first_len hp
    have Q2 : 1 ≤ a.length := (oRel hp).one
    have Lo : (firstL a).length ≤ 1048576 := by rw [first_len hp]; exact hl1
    obtain ⟨lo, Eo⟩ : ∃ l, firstL a = l := ⟨_, rfl⟩
    try rw [Eo] at hI
    try rw [Eo] at hS
    try rw [Eo] at Q0
    try rw [Eo] at Q1
    try rw [Eo] at Q2
    try rw [Eo] at Lo
    have HhI := Lib.hid hI
    have HhS := Lib.hid hS
    have HQ0 := Lib.hid Q0
    have HQ1 := Lib.hid Q1
    have HQ2 := Lib.hid Q2
    clear hI hS Q0 Q1 Q2 hp  Eo
    go_wp2_with fail
    refine (HhI.out _ ra).mono ?_
    rintro e w2 ⟨v, rfl, ho, b2⟩
    obtain ⟨oa, oc, rfl, ro_2⟩ := row_rd ho
    have B2 := B1.trans (b2.mono B1.size)
    have ra_2 := ra.below b2
    clear ho b2 B1 ra
    go_wp2_with fail
    refine (HhS.out _ ra_2).mono ?_
    rintro e w3 ⟨v, rfl, ho, b3⟩
    obtain ⟨wa, wc, rfl, rw_3⟩ := row_rd ho
    have B3 := B2.trans (b3.mono B2.size)
    have ra_3 := ra_2.below b3
    have ro_3 := ro_2.below b3
    clear ho b3 B2 ra_2 ro_2
    go_wp2_with fail
    refine (sameInts_refl oa wa oc wc _ _ Lo ro_3 rw_3).mono ?_
    rintro e w4 ⟨rfl, d4⟩
    have B4 := B3.trans (d4.below _)
    have ra_4 := d4.rd ra_3
    have ro_4 := d4.rd ro_3
    have rw_4 := d4.rd rw_3
    clear d4 B3 ra_3 ro_3 rw_3
    have hlen := HQ1.out
    have h1 := HQ2.out
    go_wp2
    go_loopw [8, 9] (fun s i wr => ∃ k : Nat, k ≤ a.length ∧ i = .int .i64 k ∧ s = .int .i64 (seenW lo k) ∧ w4 = wr)
      (fun _ i _ => a.length - (intOf i).toNat)
    case atStart => exact ⟨0, Nat.zero_le _, rfl, rfl, rfl⟩
    case round =>
      obtain ⟨k, hk, rfl, rfl, rfl⟩ := hrel
      by_cases hlt : k < a.length
      · obtain ⟨b, off, x, hxk, rfl, hbl, hc1⟩ := ro_4.get k (by omega)
        have hxe := rowAt_get (xs := lo) (k := k) (by omega)
        rw [hxk] at hxe
        obtain ⟨t, ht, g0, g1, g2, g3⟩ := HQ0.out.1 k hlt
        have hxt : x = (t : Int) := by rw [← g0]; exact Option.some.inj hxe
        subst hxt
        obtain ⟨b2, off2, y, hyk, rfl, hbl2, hc2⟩ := ra_4.get t ht
        have hye := rowAt_get (xs := a) (k := t) ht
        rw [hyk] at hye
        have hyy : rowAt a t = y := (Option.some.inj hye).symm
        rw [hyy] at g1
        have hi1 : ((k : Nat) : Int) < (lo.length : Int) := by omega
        have hi2 : ((t : Nat) : Int) < (a.length : Int) := by omega
        have hw : wrap64 ((2 : Int) ^ t) = 2 ^ t := by
          rcases (by omega : t = 0 ∨ t = 1 ∨ t = 2 ∨ t = 3) with rfl | rfl | rfl | rfl <;> decide +kernel
        have g4 : (bits .and .i64 (seenW lo k / 2 ^ t) 1 == 1) = false := g2
        have G := Lib.hid g3
        obtain ⟨s, hs⟩ : ∃ s, seenW lo k = s := ⟨_, rfl⟩
        rw [hs] at g1 g4 G ⊢
        clear g0 g2 g3 hxk hxe hyk hye hyy hs
        go_wp2
        go_roundw
        case rel => exact ⟨k + 1, by omega, by go_num, by rw [G.out], by trivial⟩
        case measure => simp [intOf]; omega
      · obtain rfl : k = a.length := by omega
        have g := HQ0.out.2
        rcases (by omega : a.length = 1 ∨ a.length = 2 ∨ a.length = 3 ∨ a.length = 4) with e | e | e | e
        · rw [e] at g hlen ⊢
          rw [show seenW lo _ = (1 : Int) from g.trans (by decide)]
          clear g e
          go_wp2
          go_ret
          exact ⟨rfl, B4⟩
        · rw [e] at g hlen ⊢
          rw [show seenW lo _ = (3 : Int) from g.trans (by decide)]
          clear g e
          go_wp2
          go_ret
          exact ⟨rfl, B4⟩
        · rw [e] at g hlen ⊢
          rw [show seenW lo _ = (7 : Int) from g.trans (by decide)]
          clear g e
          go_wp2
          go_ret
          exact ⟨rfl, B4⟩
        · rw [e] at g hlen ⊢
          rw [show seenW lo _ = (15 : Int) from g.trans (by decide)]
          clear g e
          go_wp2
          go_ret
          exact ⟨rfl, B4⟩
end Go.Proofs.Ytchbbflpckaddaa
