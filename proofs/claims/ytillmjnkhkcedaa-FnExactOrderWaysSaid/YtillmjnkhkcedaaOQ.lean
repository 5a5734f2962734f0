/-
  The model's l5Ways: all ways that begin with some points, put behind a list.
-/
import Derived.Test.YtillmjnkhkcedaaOD
import Derived.Test.YtillmjnkhkcedaaOM
import Derived.Test.YtillmjnkhkcedaaOL
import Derived.Test.YtillmjnkhkcedaaEG
import Derived.Deep.RegionHeldLaw
namespace Go.Proofs.Ytillmjnkhkcedaa
open Go.RowKit

theorem turn_off {n : Nat} {xs : List Int} (h : Rl n xs) : turnL (offI xs) = offI (turnL xs) :=
  h.off.turn.ext h.turn.off fun i j hi hj => by
    rw [hB_turn h.off i j hi hj, hB_off h j i hj hi, hB_off h.turn i j hi hj, hB_turn h i j hi hj]
    congr 1
    by_cases e : i = j
    · subst e
      rfl
    · have e2 : ¬ j = i := fun q => e q.symm
      simp [e, e2]
theorem ahead_row {n : Nat} {xs : List Int} (h : Rl n xs) (k : Nat) (hk : k < n) : bits .andNot .i64 (rowAt (turnL xs) k) (pt k) = rowAt (aheadL xs) k := by
  unfold aheadL
  rw [turn_off h, ← strict_eq h.turn]
  unfold strictL
  rw [rowRange _ _ _ (by rw [h.turn.len]; exact hk)]
theorem b_bit0 : ∀ z : Fin 16, ∀ k : Fin 4, (bits .and .i64 ((z.val : Int) / 2 ^ k.val) 1 == 0) = !hasB (z.val : Int) k.val := by decide +kernel
theorem or_fin {n : Nat} (h4 : n ≤ 4) {u : Int} (hu : ∃ y : Fin 16, u = (y.val : Int) ∧ y.val < 2 ^ n) (k : Nat) (hk : k < n) : ∃ y : Fin 16, bits .or .i64 u (pt k) = (y.val : Int) ∧ y.val < 2 ^ n := by
  obtain ⟨y, rfl, hy⟩ := hu
  obtain ⟨p, hp, hp2⟩ := b_ptlt ⟨n, by omega⟩ ⟨k, hk⟩
  obtain ⟨z, hz, hz2⟩ := b_orlt ⟨n, by omega⟩ y p hy hp2
  exact ⟨z, by rw [show pt k = (p.val : Int) from hp]; exact hz, hz2⟩

theorem goTo_yes2 {n : Nat} {bk : List Int} {m : Nat} {b : List Int} {u : Int} {k : Nat} (h : freeB bk u k = true) : goTo n bk m b u (k + 1) = goTo n bk m b u k ++ goL n bk m (b ++ [(k : Int)]) (bits .or .i64 u (pt k)) := by
  rw [goTo_succ, h, if_pos rfl]
theorem goTo_no3 {n : Nat} {bk : List Int} {m : Nat} {b : List Int} {u : Int} {k : Nat} (h : freeB bk u k = false) : goTo n bk m b u (k + 1) = goTo n bk m b u k := by
  rw [goTo_succ, h]
  simp

/-- a list of lists of the call's own -/
structure WList (W : World) (G : Nat) (L : Value) (vs : List Value) (ws : List (List Int)) : Prop where
  row : W.ownsRow G 22 1 L vs.length vs
  len : vs.length = ws.length
  each : ∀ (k : Nat) (v : Value) (w : List Int), vs[k]? = some v → ws[k]? = some w → W.ownsRow G 3 1 v w.length (w.map (Value.int .i64))

theorem apartL {W : World} {b1 b2 n m : Nat} {v L : Value} {us vs : List Value} (h : W.ownsRow b1 3 1 v n us) (k : W.ownsRow b2 22 1 L m vs) : v.ownBlock = none ∨ v.ownBlock ≠ L.ownBlock := by
  rcases h.2 with ⟨rfl, _⟩ | ⟨g, cap, cur, rfl, _, hh, _⟩
  · exact .inl rfl
  · right
    rcases k.2 with ⟨rfl, _⟩ | ⟨gp, cap2, cur2, rfl, _, kh, _⟩
    · simp [Value.ownBlock]
    · intro e
      simp [Value.ownBlock] at e
      subst e
      rw [hh] at kh
      simp at kh
theorem WList.below {W W' : World} {G : Nat} {L : Value} {vs : List Value} {ws : List (List Int)} (h : WList W G L vs ws) (hb : Below W.heap.size W W') : WList W' G L vs ws :=
  ⟨own_keepR h.row hb (fun q hq => (h.row.lt q hq).2), h.len, fun k v w hv hw => own_keep (h.each k v w hv hw) hb (fun q hq => ((h.each k v w hv hw).lt q hq).2)⟩
/-- one more behind the list -/
theorem WList.push {W w1 : World} {G : Nat} {L L' bv : Value} {vs : List Value} {ws : List (List Int)} {us : List Int} (h : WList W G L vs ws) (hg : W.grownBy w1 L.ownBlock)
    (hrow : w1.ownsRow G 22 1 L' (vs.length + 1) (vs ++ [bv])) (hb : W.ownsRow G 3 1 bv us.length (us.map (Value.int .i64))) : WList w1 G L' (vs ++ [bv]) (ws ++ [us]) := by
  refine ⟨by rw [List.length_append]; exact hrow, by rw [List.length_append, List.length_append, h.len]; rfl, fun k v w hv hw => ?_⟩
  by_cases hk : k < vs.length
  · rw [List.getElem?_append_left hk] at hv
    rw [List.getElem?_append_left (by rw [← h.len]; exact hk)] at hw
    exact (h.each k v w hv hw).kept hg (apartL (h.each k v w hv hw) h.row)
  · rw [List.getElem?_append_right (by omega)] at hv
    rw [List.getElem?_append_right (by rw [← h.len]; omega)] at hw
    have hk0 : k - vs.length = 0 := by
      rcases Nat.eq_zero_or_pos (k - vs.length) with h0 | h0
      · exact h0
      · rw [List.getElem?_eq_none (by simp; omega)] at hv
        cases hv
    rw [hk0] at hv
    rw [← h.len, hk0] at hw
    simp at hv hw
    subst hv hw
    exact hb.kept hg (apartL hb h.row)

/-- what a call leaves -/
def WPost (G : Nat) (L : Value) (W : World) (ws : List (List Int)) (e : Ending) (W' : World) : Prop :=
  ∃ L' vs, e = .returned L' ∧ WList W' G L' vs ws ∧ W.grownBy W' L.ownBlock ∧ (L'.ownBlock = L.ownBlock ∨ ∀ q, L'.ownBlock = some q → W.heap.size ≤ q)

set_option maxHeartbeats 4000000 in
theorem l5Ways_leaf {W W0 : World} {ao : Option Addr} {ca gb cb : Nat} {xs us : List Int} {u : Int} {L : Value} {vs : List Value} {ws : List (List Int)} (hn : us.length = xs.length)
    (ho : W.ownsRow W0.heap.size 3 1 (.slice (some ⟨gb, 0, none⟩) us.length cb) us.length (us.map (Value.int .i64))) (hL : WList W W0.heap.size L vs ws) (hG : W0.heap.size ≤ W.heap.size) (hm : vs.length ≤ 1000) :
    Calls Try.prog 53 #[.slice ao xs.length ca, .slice (some ⟨gb, 0, none⟩) us.length cb, .int .i64 u, L] W (WPost W0.heap.size L W (ws ++ [us])) := by
  obtain ⟨j0, hj, hw0, hw1, hw2⟩ := info_parts (show (Try.prog.info? 22).map (fun i => (i.zero, i.size, i.bytes)) = some (some (.slice none 0 0), 1, 24) by kernel_rfl)
  have hn' : (us.length : Int) = (xs.length : Int) := by omega
  have HH := Lib.hid (And.intro ho (And.intro hL (And.intro hG hn)))
  have hrow := hL.row
  clear ho hL hn
  go_enter Try.func53, Try.ntmps53
  go_wp2_with (at_builtin; refine wpList_append_own_at _ rfl (.tmp 16) (.tmp 18) 64 rfl W0.heap.size 22 j0 (.slice none 0 0) 1 24 Try.underlying64 hj hw0 hw1 hw2 rfl (by decide) _ _ _ rfl (hrow.alloc _) ⟨W.heap.size, 0, none⟩ 1 1 [_] rfl rfl (cell_one_new _ _ _) (by simp [Value.oneCell']) (by unfold maxLen; omega) (by omega) (by simp; omega) ?_)
  intro v' w1 hown hgrow _ hat
  have hg : W.grownBy w1 L.ownBlock := (World.grownBy_alloc W _ _).trans hgrow
  have HF := Lib.hid (show WPost W0.heap.size L W (ws ++ [us]) (.returned v') w1 from ⟨v', _, rfl, HH.out.2.1.push hg hown HH.out.1, hg, hat.elim .inl (fun e => .inr (fun q hq => by rw [e] at hq; cases hq; omega))⟩)
  clear hown hgrow hat hg
  go_wp2
  go_ret
  exact HF.out

theorem grown_below {W W1 : World} {row : Option Nat} {B : Nat} (h : W.grownBy W1 row) (hB : B ≤ W.heap.size) (hr : ∀ q, row = some q → B ≤ q) : Below B W W1 :=
  (Below.refl B W).grown h hB hr

/-- what stands in a round: the world w1 is that behind the turned relation -/
structure WInv (W0 w1 wr : World) (G : Nat) (L0 L : Value) (vs : List Value) (ws : List (List Int)) : Prop where
  list : WList wr G L vs ws
  grew : w1.grownBy wr L0.ownBlock
  own : L.ownBlock = L0.ownBlock ∨ ∀ q, L.ownBlock = some q → w1.heap.size ≤ q

theorem WInv.dn {W0 w1 wr wr' : World} {G : Nat} {L0 L : Value} {vs : List Value} {ws : List (List Int)} (h : WInv W0 w1 wr G L0 L vs ws) (hd : Dn wr wr') : WInv W0 w1 wr' G L0 L vs ws := by
  obtain ⟨q, rfl⟩ := hd
  exact ⟨⟨h.list.row, h.list.len, h.list.each⟩, ⟨h.grew.os, h.grew.tape, h.grew.output, h.grew.size, h.grew.block⟩, h.own⟩

/-- the call in a round -/
theorem ways_call {W0 w1 wr w3 : World} {ao : Option Addr} {ca gb cb n m k : Nat} {xs bk us : List Int} {u : Int} {L0 L : Value} {vs : List Value} {ws : List (List Int)} (h4 : n ≤ 4)
    (IH : ∀ (us : List Int) (u : Int) (gb cb : Nat) (L : Value) (vs : List Value) (ws : List (List Int)) (W : World), us.length + m = n → (∃ y : Fin 16, u = (y.val : Int) ∧ y.val < 2 ^ n) → Below W0.heap.size W0 W →
      W.ownsRow W0.heap.size 3 1 (.slice (some ⟨gb, 0, none⟩) us.length cb) us.length (us.map (Value.int .i64)) → WList W W0.heap.size L vs ws → (ws ++ goL n bk m us u).length ≤ 1000 →
      Calls Try.prog 53 #[.slice ao xs.length ca, .slice (some ⟨gb, 0, none⟩) us.length cb, .int .i64 u, L] W (WPost W0.heap.size L W (ws ++ goL n bk m us u)))
    (hn : us.length + (m + 1) = n) (hu : ∃ y : Fin 16, u = (y.val : Int) ∧ y.val < 2 ^ n) (hk : k < n) (hf : freeB bk u k = true) (hlen : (ws ++ goL n bk (m + 1) us u).length ≤ 1000)
    (hB1 : Below W0.heap.size W0 w1) (hL0 : ∀ q, L0.ownBlock = some q → W0.heap.size ≤ q) (hI : WInv W0 w1 wr W0.heap.size L0 L vs (ws ++ goTo n bk m us u k))
    (hB3 : Below wr.heap.size wr w3) (ho3 : w3.ownsRow W0.heap.size 3 1 (.slice (some ⟨gb, 0, none⟩) (us.length + 1) cb) (us.length + 1) (us.map (Value.int .i64) ++ [.int .i64 (k : Int)])) :
    Calls Try.prog 53 #[.slice ao xs.length ca, .slice (some ⟨gb, 0, none⟩) (us.length + 1) cb, .int .i64 (bits .or .i64 u (pt k)), L] w3 fun e W' =>
      ∃ L' vs', e = .returned L' ∧ WInv W0 w1 W' W0.heap.size L0 L' vs' (ws ++ goTo n bk m us u (k + 1)) := by
  have hG1 := hB1.size
  have hwr := hI.grew.size
  have hBr : Below W0.heap.size W0 wr := hB1.trans (grown_below hI.grew hG1 hL0)
  have hgy := goTo_yes2 (n := n) (m := m) (b := us) hf
  obtain ⟨r2, hr2⟩ := goTo_split n bk m us u k hk
  have h := IH (us ++ [(k : Int)]) (bits .or .i64 u (pt k)) gb cb L vs (ws ++ goTo n bk m us u k) w3 (by rw [List.length_append]; simp; omega) (or_fin h4 hu k hk) (hBr.trans (hB3.mono hBr.size))
    (by rw [List.length_append, List.map_append]; exact ho3) (hI.list.below hB3) (by
      rw [hr2, hgy] at hlen
      simp only [List.length_append] at hlen ⊢
      omega)
  rw [List.length_append] at h
  refine h.mono ?_
  rintro e W' ⟨L', vs', rfl, hl, hg, hat⟩
  have g3 : w1.grownBy w3 L0.ownBlock := hI.grew.trans ⟨hB3.os, hB3.tape, hB3.output, hB3.size, fun q hq _ => hB3.block q hq⟩
  have hs3 := g3.size
  have g4 : w1.grownBy W' L0.ownBlock := ⟨hg.os.trans g3.os, hg.tape.trans g3.tape, hg.output.trans g3.output, Nat.le_trans g3.size hg.size, fun q hq hne => by
    refine (hg.block q (by omega) ?_).trans (g3.block q hq hne)
    rcases hI.own with e | e
    · rw [e]; exact hne
    · intro e2
      have := e q e2.symm
      omega⟩
  refine ⟨L', vs', rfl, ?_, g4, ?_⟩
  · rw [hgy, ← List.append_assoc]
    exact hl
  · rcases hat with e | e
    · rw [e]; exact hI.own
    · exact .inr fun q hq => Nat.le_trans hs3 (e q hq)

theorem cell_at_new (w : World) (x : Value) (t : TypeId) : (w.alloc (.cells #[x] t)).heap[w.heap.size]? = some (.cells #[x] t (0, 0)) := World.alloc_heap_new w _
theorem lit_kept {w w2 : World} {row : Option Nat} {b : Nat} {x : Value} {t : TypeId} (hg : w.grownBy w2 row) (h : w.heap[b]? = some (.cells #[x] t (0, 0))) (hne : some b ≠ row) :
    ∀ j u, [x][j]? = some u → w2.cell? ((⟨b, 0, none⟩ : Addr).add j) = some u := by
  intro j u hj
  have h2 := (hg.block b (Array.getElem?_eq_some_iff.1 h).1 hne).trans h
  match j, hj with
  | 0, hj =>
    simp at hj
    subst hj
    simp [Addr.add, World.cell?, h2]
theorem form_one {W : World} {base n : Nat} {v : Value} {us : List Value} {e : TypeId} (h : W.ownsRow base e 1 v n us) (hn : 1 ≤ n) : ∃ g cap, v = .slice (some ⟨g, 0, none⟩) n cap := by
  rcases h.2 with ⟨_, h0⟩ | ⟨g, cap, cur, rfl, _⟩
  · omega
  · exact ⟨g, cap, rfl⟩

set_option maxRecDepth 100000 in
set_option maxHeartbeats 8000000 in
theorem l5Ways_step {W W0 : World} {ao : Option Addr} {ca gb cb m : Nat} {xs us : List Int} {u : Int} {L : Value} {vs : List Value} {ws : List (List Int)} (hrel : relIn xs = true) (hx0 : Rd W0 ao xs)
    (IH : ∀ (us : List Int) (u : Int) (gb cb : Nat) (L : Value) (vs : List Value) (ws : List (List Int)) (W : World), us.length + m = xs.length → (∃ y : Fin 16, u = (y.val : Int) ∧ y.val < 2 ^ xs.length) → Below W0.heap.size W0 W →
      W.ownsRow W0.heap.size 3 1 (.slice (some ⟨gb, 0, none⟩) us.length cb) us.length (us.map (Value.int .i64)) → WList W W0.heap.size L vs ws → (ws ++ goL xs.length (aheadL xs) m us u).length ≤ 1000 →
      Calls Try.prog 53 #[.slice ao xs.length ca, .slice (some ⟨gb, 0, none⟩) us.length cb, .int .i64 u, L] W (WPost W0.heap.size L W (ws ++ goL xs.length (aheadL xs) m us u)))
    (hn : us.length + (m + 1) = xs.length) (hu : ∃ y : Fin 16, u = (y.val : Int) ∧ y.val < 2 ^ xs.length) (hB : Below W0.heap.size W0 W)
    (ho : W.ownsRow W0.heap.size 3 1 (.slice (some ⟨gb, 0, none⟩) us.length cb) us.length (us.map (Value.int .i64))) (hL : WList W W0.heap.size L vs ws) (hlen : (ws ++ goL xs.length (aheadL xs) (m + 1) us u).length ≤ 1000) :
    Calls Try.prog 53 #[.slice ao xs.length ca, .slice (some ⟨gb, 0, none⟩) us.length cb, .int .i64 u, L] W (WPost W0.heap.size L W (ws ++ goL xs.length (aheadL xs) (m + 1) us u)) := by
  have R := Rl.of hrel
  have h4 := R.four
  obtain ⟨i0, hi, hz0, hz1, hz2⟩ := info_parts Try.info3
  have hne : ((us.length : Int) == (xs.length : Int)) = false := beq_eq_false_iff_ne.2 (by omega)
  have hul : us.length ≤ 3 := by omega
  have hGW := hB.size
  have HT := Lib.hid (l1Turned_any ao ca xs W hrel (hx0.below hB))
  have HH := Lib.hid (And.intro IH (And.intro hn (And.intro hu (And.intro hlen (And.intro hB (And.intro ho (And.intro hL R)))))))
  clear IH hn hu hlen hB ho hL R hrel hx0
  go_enter Try.func53, Try.ntmps53
  go_wp2_with fail
  refine HT.out.mono ?_
  rintro e w1 ⟨v, rfl, hot, hb1⟩
  have hot : w1.ownsRow W.heap.size 3 1 v (turnL xs).length ((turnL xs).map (Value.int .i64)) := by rw [HH.out.2.2.2.2.2.2.2.turn.len]; exact hot
  have htl : (turnL xs).length = xs.length := HH.out.2.2.2.2.2.2.2.turn.len
  obtain ⟨bo, cbk, rfl, _⟩ := row_rd hot
  have hL1 := HH.out.2.2.2.2.2.2.1.below hb1
  have hs1 := hb1.size
  have HF := Lib.hid (And.intro hot (And.intro hL1 (And.intro (show Below W0.heap.size W0 w1 from HH.out.2.2.2.2.1.trans (hb1.mono hGW)) (And.intro (own_keep HH.out.2.2.2.2.2.1 hb1 (fun q hq => (HH.out.2.2.2.2.2.1.lt q hq).2)) (And.intro (fun q hq => (HH.out.2.2.2.2.2.2.1.row.lt q hq).1) htl)))))
  have HB1 := Lib.hid hb1
  rw [htl]
  clear hot hL1 hb1 HT htl
  go_wp2
  go_loopw [3, 10] (fun Lv i wr => ∃ (k : Nat) (vs' : List Value), k ≤ xs.length ∧ i = .int .i64 k ∧ WInv W0 w1 wr W0.heap.size L Lv vs' (ws ++ goTo xs.length (aheadL xs) m us u k))
    (fun _ i _ => xs.length - (intOf i).toNat)
  case atStart => exact ⟨0, vs, Nat.zero_le _, rfl, ⟨by rw [show goTo xs.length (aheadL xs) m us u 0 = [] from rfl, List.append_nil]; exact HF.out.2.1, ⟨rfl, rfl, rfl, Nat.le_refl _, fun _ _ _ => rfl⟩, .inl rfl⟩⟩
  case round =>
    obtain ⟨k, vs', hk, rfl, hI⟩ := hrel
    by_cases hlt : k < xs.length
    · have hotr := HF.out.1.kept hI.grew (apartL HF.out.1 HF.out.2.1.row)
      obtain ⟨_, _, e, hrb⟩ := row_rd hotr
      cases e
      obtain ⟨b2, off2, y, hyk, rfl, hbl2, hc2⟩ := hrb.get k (by rw [HF.out.2.2.2.2.2]; exact hlt)
      rw [rowB hyk] at hc2
      have hj1 : ((k : Nat) : Int) < (xs.length : Int) := by omega
      have hpw := pt_wrapO k (by omega)
      have hb0 : (bits .and .i64 (u / 2 ^ k) 1 == 0) = !hasB u k := by
        obtain ⟨y, rfl, _⟩ := HH.out.2.2.1
        exact b_bit0 y ⟨k, by omega⟩
      have hpp : (bits .andNot .i64 (bits .andNot .i64 (rowAt (turnL xs) k) (pt k)) u == 0) = partB (rowAt (aheadL xs) k) u := by
        rw [ahead_row HH.out.2.2.2.2.2.2.2 k hlt]
        rfl
      have HI := Lib.hid hI
      obtain ⟨z, hz⟩ : ∃ z, rowAt (turnL xs) k = z := ⟨_, rfl⟩
      rw [hz] at hc2 hpp
      clear hI hotr hrb hyk hz
      cases hz : hasB u k with
      | true =>
        rw [hz] at hb0
        have hf : freeB (aheadL xs) u k = false := by unfold freeB; rw [hz]; rfl
        have HG := Lib.hid (goTo_no3 (n := xs.length) (m := m) (b := us) hf)
        clear hpp hz hf
        go_wp2
        go_quiet (fail)
        go_wp2
        go_roundw
        case rel => exact ⟨k + 1, vs', by omega, by go_num, by rw [HG.out]; exact HI.out.dn (Dn.drewN _ _)⟩
        case measure => simp [intOf]; omega
      | false =>
        rw [hz] at hb0
        cases hp : partB (rowAt (aheadL xs) k) u with
        | false =>
          rw [hp] at hpp
          have hf : freeB (aheadL xs) u k = false := by unfold freeB; rw [hp, Bool.and_false]
          have HG := Lib.hid (goTo_no3 (n := xs.length) (m := m) (b := us) hf)
          clear hz hp hf
          go_wp2
          go_quiet (fail)
          go_wp2
          go_roundw
          case rel => exact ⟨k + 1, vs', by omega, by go_num, by rw [HG.out]; exact HI.out.dn (Dn.drewN _ _)⟩
          case measure => simp [intOf]; omega
        | true =>
          rw [hp] at hpp
          have hf : freeB (aheadL xs) u k = true := by unfold freeB; rw [hz, hp]; rfl
          have HG := Lib.hid hf
          clear hz hp hf
          have hor : wr.ownsRow W0.heap.size 3 1 (.slice (some ⟨gb, 0, none⟩) us.length cb) us.length (us.map (Value.int .i64)) := HF.out.2.2.2.1.kept HI.out.grew (apartL HF.out.2.2.2.1 HF.out.2.1.row)
          have hwrs : W0.heap.size ≤ wr.heap.size := Nat.le_trans (Nat.le_trans hGW hs1) HI.out.grew.size
          go_wp2
          go_quiet (fail)
          go_wp2
          have HI2 := Lib.hid (HI.out.dn (Dn.drewN wr nq))
          have hor2 : (wr.drewN nq).ownsRow W0.heap.size 3 1 (.slice (some ⟨gb, 0, none⟩) us.length cb) us.length (us.map (Value.int .i64)) := hor
          have hwq : W0.heap.size ≤ (wr.drewN nq).heap.size := hwrs
          obtain ⟨wq, hq⟩ : ∃ wq, wr.drewN nq = wq := ⟨_, rfl⟩
          rw [hq] at HI2 hor2 hwq ⊢
          clear hq hor hwrs HI hc2 hbl2 hb0 hpp
          have hcn : ∀ W', Below wq.heap.size wq W' → ∀ j x, (us.map (Value.int .i64))[j]? = some x → W'.cell? ((⟨gb, 0, none⟩ : Addr).add j) = some x := fun W' hb j x hx => by
            have h1 := hor2.cells (g := gb) rfl j x hx
            rw [← h1]
            exact World.cell?_of_block (hb.block _ (World.block_lt_of_cell? wq _ h1))
          have HN := Lib.hid hcn
          have HLB := Lib.hid (show ((wq.drew.alloc (.cells #[] 3)).alloc (.cells #[.int .i64 (k : Int)] 3)).heap[wq.heap.size + 1]? = some (.cells #[.int .i64 (k : Int)] 3 (0, 0)) from by
            have h := World.alloc_heap_new (wq.drew.alloc (.cells #[] 3)) (.cells #[.int .i64 (k : Int)] 3)
            rw [World.size_alloc] at h
            exact h)
          have HLC := Lib.hid (show ((wq.drew.alloc (.cells #[.int .i64 (k : Int)] 3)).alloc (.cells #[] 3)).heap[wq.heap.size]? = some (.cells #[.int .i64 (k : Int)] 3 (0, 0)) from
            (Below.heap_alloc (wq.drew.alloc (.cells #[.int .i64 (k : Int)] 3)) (.cells #[] 3) wq.heap.size (by simp)).trans (World.alloc_heap_new wq.drew (.cells #[.int .i64 (k : Int)] 3)))
          clear hcn
          have HRC := Lib.hid (And.intro (show ((wq.drew.alloc (.cells #[.int .i64 (k : Int)] 3)).alloc (.cells #[] 3)).ownsRow wq.heap.size 3 1 (.slice (some ⟨wq.heap.size + 1, 0, none⟩) 0 0) 0 [] from by have h := row_lit0 (wq.drew.alloc (.cells #[.int .i64 (k : Int)] 3)); rw [World.size_alloc] at h; exact own_mono h (Nat.le_succ _))
            (And.intro (show Below wq.heap.size wq ((wq.drew.alloc (.cells #[.int .i64 (k : Int)] 3)).alloc (.cells #[] 3)) from (((Below.refl wq.heap.size wq).drew).alloc (Nat.le_refl _) _).alloc (by rw [World.size_alloc]; exact Nat.le_succ _) _)
              (show wq.heap.size ≤ ((wq.drew.alloc (.cells #[.int .i64 (k : Int)] 3)).alloc (.cells #[] 3)).heap.size from by rw [World.size_alloc, World.size_alloc]; show wq.heap.size ≤ wq.heap.size + 1 + 1; omega)))
          go_region_held_law (fun _ => True) (trivial) (first
            | (refine step_append_own rfl (.tmp 46) (.tmp 47) 22 rfl wq.heap.size 3 i0 (.int .i64 0) 1 8 Try.underlying22 hi hz0 hz1 hz2 rfl (by decide) _ _ _ rfl (row_lit0 wq.drew) ⟨gb, 0, none⟩ us.length cb (us.map (Value.int .i64)) rfl (by simp) (HN.out _ (((Below.refl wq.heap.size wq).drew).alloc (Nat.le_refl _) _)) (by simp [Value.oneCell']) (by unfold maxLen; omega) (by omega) (by simp) ?_; intro v2 w2 hown2 hgrow2; rw [Nat.zero_add, List.nil_append] at hown2; have hB2 : Below wq.heap.size wq w2 := (((Below.refl wq.heap.size wq).drew).alloc (Nat.le_refl _) _).grown hgrow2 (by simp) (fun q hq => by have h := Option.some.inj (show some _ = some q from hq); rw [← h]; first | exact Nat.le_refl _ | simp); have hlo2 : ∀ q, v2.ownBlock = some q → wq.heap.size ≤ q := fun q hq => (hown2.lt q hq).1; replace hown2 := own_mono hown2 hwq)
            | (refine step_append_own rfl (.tmp 46) (.tmp 47) 22 rfl wq.heap.size 3 i0 (.int .i64 0) 1 8 Try.underlying22 hi hz0 hz1 hz2 rfl (by decide) _ _ _ rfl ((row_lit0 wq.drew).alloc _) ⟨gb, 0, none⟩ us.length cb (us.map (Value.int .i64)) rfl (by simp) (HN.out _ ((((Below.refl wq.heap.size wq).drew).alloc (Nat.le_refl _) _).alloc (by simp) _)) (by simp [Value.oneCell']) (by unfold maxLen; omega) (by omega) (by simp; omega) ?_; intro v2 w2 hown2 hgrow2; rw [Nat.zero_add, List.nil_append] at hown2; have hB2 : Below wq.heap.size wq w2 := ((((Below.refl wq.heap.size wq).drew).alloc (Nat.le_refl _) _).alloc (by simp) _).grown hgrow2 (by simp; omega) (fun q hq => by have h := Option.some.inj (show some _ = some q from hq); rw [← h]; first | exact Nat.le_refl _ | simp); have hlo2 : ∀ q, v2.ownBlock = some q → wq.heap.size ≤ q := fun q hq => (hown2.lt q hq).1; replace hown2 := own_mono hown2 hwq; have hlit := lit_kept hgrow2 HLB.out (fun e => by have h := Option.some.inj (show some (wq.heap.size + 1) = some wq.heap.size from e); omega))
            | (refine step_append_own rfl (.tmp 46) (.tmp 47) 22 rfl wq.heap.size 3 i0 (.int .i64 0) 1 8 Try.underlying22 hi hz0 hz1 hz2 rfl (by decide) _ _ _ rfl HRC.out.1 ⟨gb, 0, none⟩ us.length cb (us.map (Value.int .i64)) rfl (by simp) (HN.out _ HRC.out.2.1) (by simp [Value.oneCell']) (by unfold maxLen; omega) (by omega) HRC.out.2.2 ?_; intro v2 w2 hown2 hgrow2; rw [Nat.zero_add, List.nil_append] at hown2; have hB2 : Below wq.heap.size wq w2 := HRC.out.2.1.grown hgrow2 HRC.out.2.2 (fun q hq => by have h := Option.some.inj (show some (wq.heap.size + 1) = some q from hq); rw [← h]; exact Nat.le_succ _); have hlo2 : ∀ q, v2.ownBlock = some q → wq.heap.size ≤ q := fun q hq => (hown2.lt q hq).1; replace hown2 := own_mono hown2 hwq; have hlit := lit_kept hgrow2 HLC.out (fun e => by have h := Option.some.inj (show some wq.heap.size = some (wq.heap.size + 1) from e); omega))
            | (refine step_append_own rfl (.tmp 48) (.tmp 50) 22 rfl W0.heap.size 3 i0 (.int .i64 0) 1 8 Try.underlying22 hi hz0 hz1 hz2 rfl (by decide) _ _ _ rfl (hown2.alloc _) ⟨w2.heap.size, 0, none⟩ 1 1 [_] rfl rfl (cell_one_new _ _ _) (by simp [Value.oneCell']) (by unfold maxLen; omega) (by omega) (Nat.le_trans hwq (Nat.le_trans hB2.size (by simp))) ?_; intro v3 w3 hown3 hgrow3; have hB3 : Below wq.heap.size wq w3 := (hB2.alloc hB2.size _).grown hgrow3 (Nat.le_trans hB2.size (by simp)) (fun q hq => hlo2 q hq); obtain ⟨g3, c3, rfl⟩ := form_one hown3 (by omega); have HC := Lib.hid (ways_call h4 HH.out.1 HH.out.2.1 HH.out.2.2.1 hlt HG.out HH.out.2.2.2.1 HF.out.2.2.1 HF.out.2.2.2.2.1 HI2.out hB3 hown3); clear hown3 hgrow3 hB3)
            | (refine step_append_own rfl (.tmp 48) (.tmp 50) 22 rfl W0.heap.size 3 i0 (.int .i64 0) 1 8 Try.underlying22 hi hz0 hz1 hz2 rfl (by decide) _ _ _ rfl hown2 ⟨wq.heap.size + 1, 0, none⟩ 1 1 [_] rfl rfl hlit (by simp [Value.oneCell']) (by unfold maxLen; omega) (by omega) (Nat.le_trans hwq hB2.size) ?_; intro v3 w3 hown3 hgrow3; have hB3 : Below wq.heap.size wq w3 := hB2.grown hgrow3 hB2.size (fun q hq => hlo2 q hq); obtain ⟨g3, c3, rfl⟩ := form_one hown3 (by omega); have HC := Lib.hid (ways_call h4 HH.out.1 HH.out.2.1 HH.out.2.2.1 hlt HG.out HH.out.2.2.2.1 HF.out.2.2.1 HF.out.2.2.2.2.1 HI2.out hB3 hown3); clear hown3 hgrow3 hB3)
            | (refine step_append_own rfl (.tmp 48) (.tmp 50) 22 rfl W0.heap.size 3 i0 (.int .i64 0) 1 8 Try.underlying22 hi hz0 hz1 hz2 rfl (by decide) _ _ _ rfl hown2 ⟨wq.heap.size, 0, none⟩ 1 1 [_] rfl rfl hlit (by simp [Value.oneCell']) (by unfold maxLen; omega) (by omega) (Nat.le_trans hwq hB2.size) ?_; intro v3 w3 hown3 hgrow3; have hB3 : Below wq.heap.size wq w3 := hB2.grown hgrow3 hB2.size (fun q hq => hlo2 q hq); obtain ⟨g3, c3, rfl⟩ := form_one hown3 (by omega); have HC := Lib.hid (ways_call h4 HH.out.1 HH.out.2.1 HH.out.2.2.1 hlt HG.out HH.out.2.2.2.1 HF.out.2.2.1 HF.out.2.2.2.2.1 HI2.out hB3 hown3); clear hown3 hgrow3 hB3)
            | ((with_reducible refine HC.out.mono ?_); rintro e w4 ⟨L', vs2, rfl, hI4⟩))
          all_goals
            have HW := Lib.hid hI4
            clear hI4
            go_wp2
            go_roundw
            case rel => exact ⟨k + 1, vs2, by omega, by go_num, HW.out⟩
            case measure => simp [intOf]; omega
    · obtain rfl : k = xs.length := by omega
      have HW := Lib.hid hI
      clear hI
      go_wp2
      go_ret
      have hI := HW.out
      have hW1 := HB1.out
      exact ⟨_, vs', rfl, by rw [← goTo_all]; exact hI.list, ⟨hI.grew.os.trans hW1.os, hI.grew.tape.trans hW1.tape, hI.grew.output.trans hW1.output, Nat.le_trans hW1.size hI.grew.size, fun q hq hne => (hI.grew.block q (Nat.lt_of_lt_of_le hq hW1.size) hne).trans (hW1.block q hq)⟩,
        hI.own.elim .inl (fun e => .inr (fun q hq => Nat.le_trans hW1.size (e q hq)))⟩

/-- all ways that begin with some points, put behind a list -/
theorem l5Ways_any {W0 : World} {ao : Option Addr} {ca : Nat} {xs : List Int} (hrel : relIn xs = true) (hx0 : Rd W0 ao xs) :
    ∀ (m : Nat) (us : List Int) (u : Int) (gb cb : Nat) (L : Value) (vs : List Value) (ws : List (List Int)) (W : World), us.length + m = xs.length → (∃ y : Fin 16, u = (y.val : Int) ∧ y.val < 2 ^ xs.length) → Below W0.heap.size W0 W →
      W.ownsRow W0.heap.size 3 1 (.slice (some ⟨gb, 0, none⟩) us.length cb) us.length (us.map (Value.int .i64)) → WList W W0.heap.size L vs ws → (ws ++ goL xs.length (aheadL xs) m us u).length ≤ 1000 →
      Calls Try.prog 53 #[.slice ao xs.length ca, .slice (some ⟨gb, 0, none⟩) us.length cb, .int .i64 u, L] W (WPost W0.heap.size L W (ws ++ goL xs.length (aheadL xs) m us u))
  | 0, us, u, gb, cb, L, vs, ws, W, hn, _, hB, ho, hL, hlen => l5Ways_leaf (by omega) ho hL hB.size (by
      rw [List.length_append] at hlen
      have := hL.len
      omega)
  | m + 1, us, u, gb, cb, L, vs, ws, W, hn, hu, hB, ho, hL, hlen => l5Ways_step hrel hx0 (l5Ways_any hrel hx0 m) hn hu hB ho hL hlen
end Go.Proofs.Ytillmjnkhkcedaa
