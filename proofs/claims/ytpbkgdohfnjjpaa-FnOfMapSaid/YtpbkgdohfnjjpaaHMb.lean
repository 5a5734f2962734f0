/-
  KindSplit of both.
-/
import Derived.Test.YtpbkgdohfnjjpaaHM
import Derived.Test.YtpbkgdohfnjjpaaHG
import Derived.Deep.CutRange
namespace Go.Proofs.Ytpbkgdohfnjjpaa
open Go.RowKit

theorem implKindSplit_any (ao : Option Addr) (ca : Nat) (xs : List Int) (w : World) (hl : xs.length ≤ 1048576) (hx : Rd w ao xs) :
    Calls Try.prog 29 #[.slice ao xs.length ca] w (GaveLL w (ifR (relIn xs) (turnsL xs)) (ifR (relIn xs) (oneWayL xs)) (relIn xs)) := by
  cases hp : relIn xs with
  | false =>
    have HP := Lib.hid hp
    clear hp
    go_enter Try.func29, Try.ntmps29
    go_wp2_with (go_at_call 50; refine (relationFrom_no _ _ _ _ hl HP.out hx).mono ?_; rintro e w1 ⟨rfl, hb⟩)
    go_ret3
    have hB := hb.alloc hb.size (.cells #[.int .i64 0, .int .i64 0, .int .i64 0, .int .i64 0, .int .i64 0] 48)
    exact ⟨.slice none 0 0, .slice none 0 0, w.heap.size, w.heap.size, w.heap.size, w.heap.size, rfl, ⟨World.ownsRow_nil _ _ _ _, fun k hk => (by cases hk), hB.size⟩, ⟨World.ownsRow_nil _ _ _ _, fun k hk => (by cases hk), hB.size⟩, Nat.le_refl _, Nat.le_refl _, .inl (Nat.le_refl _), hB⟩
  | true =>
    have R := Rl.of hp
    exact implSplit_walk xs (offI xs) (turnsL xs) (otherL (turnsL xs)) (oneWayL xs) ao ca w (by rw [R.turns.len]; exact R.four) (by rw [R.oneWay.len]; exact R.four)
      (relationFrom_yes _ _ _ _ hp hx) (fun w => offR R w) (fun w => twoR R.off w) (fun w => otherR R.turns w) (fun w => bothR R.off R.turns.other w)

/-! the model's -/
/-- append onto a row of the call's own, as one step of a region that draws; where it lies -/
theorem step_append_own_at {P : Program} {ops : Array Oper} {o : Oper} {a : Act} {w : World} {K : Act → World → Prop} {Q : Exit → Act → World → Prop} {E : Prop}
    (hg : o.guard = none) (s x : Operand) (t : TypeId) (ho : o.op = Op.call { callee := Callee.builtin Builtin.append, args := #[s, x], argTypes := #[t, t] })
    (base : Nat) (e : TypeId) (i : TypeInfo) (z : Value) (size bytes : Nat) (ht : P.underlying t = some (.slice e)) (hi : P.info? e = some i) (hz : i.zero = some z)
    (hsize : i.size = size) (hby : i.bytes = bytes) (hzs : z.cells.size = size) (hsz : 0 < size)
    (v : Value) (n : Nat) (xs : List Value) (hs : a.eval s = v) (hown : w.ownsRow base e size v n xs)
    (ad : Addr) (m c : Nat) (news : List Value) (hx : a.eval x = .slice (some ad) m c) (hl : news.length = m * size) (hnews : ∀ j u, news[j]? = some u → w.cell? (ad.add j) = some u) (h1 : ∀ u ∈ news, u.oneCell' = true)
    (h63 : n + m ≤ maxLen) (hbytes : (n + m) * bytes ≤ 140737488355328) (hbase : base ≤ w.heap.size)
    (h : ∀ v' w', w'.ownsRow base e size v' (n + m) (xs ++ news) → w.grownBy w' v.ownBlock → (v'.ownBlock = v.ownBlock ∨ v'.ownBlock = some w.heap.size) → K (a.put o.dst v') w') :
    if Region.wanted o (yielded ops a.tmps) = true then Oper.wp P o a w K Q else E := by
  have hw : Region.wanted o (yielded ops a.tmps) = true := by simp [Region.wanted, hg]
  rw [if_pos hw]
  obtain ⟨v', w', hr, h2, h3, _, h5⟩ := run_append_own_at (P := P) w base t o.type e i z size bytes ht hi hz hsize hby hzs hsz v n xs hown ad m c news hl hnews h1 h63 hbytes hbase
  unfold Oper.wp execOp
  simp only [ho, resolve, invoke, builtin, Sem.run_bind, Sem.run_pure, Result.andThen_ok, List.map_toArray, List.map_cons, List.map_nil, hs, hx, hr]
  exact h v' w' h2 h3 h5
/-- two rows and a third block, all apart -/
def Apart (u v : Value) (g : Nat) : Prop := (∀ k, u.ownBlock = some k → k ≠ g) ∧ (∀ k, v.ownBlock = some k → k ≠ g) ∧ ∀ k, u.ownBlock = some k → v.ownBlock ≠ some k
theorem Apart.symm {u v : Value} {g : Nat} (h : Apart u v g) : Apart v u g := ⟨h.2.1, h.1, fun k hk e => h.2.2 k e hk⟩
theorem Apart.left {u v u' : Value} {g B : Nat} (h : Apart u v g) (hu : u'.ownBlock = u.ownBlock ∨ u'.ownBlock = some B) (hg : g < B) (hv : ∀ k, v.ownBlock = some k → k < B) : Apart u' v g := by
  rcases hu with e | e
  · exact ⟨fun k hk => h.1 k (e ▸ hk), h.2.1, fun k hk => h.2.2 k (e ▸ hk)⟩
  · refine ⟨fun k hk => ?_, h.2.1, fun k hk e2 => ?_⟩
    · rw [e] at hk
      cases hk
      omega
    · rw [e] at hk
      cases hk
      exact Nat.lt_irrefl _ (hv _ e2)
theorem rd_grown {w w' : World} {g : Nat} {xs : List Int} {row : Option Nat} (h : Rd w (some ⟨g, 0, none⟩) xs) (hg : w.grownBy w' row) (hne : some g ≠ row) : Rd w' (some ⟨g, 0, none⟩) xs := by
  intro k x hx
  obtain ⟨b, off, e, hl, hc⟩ := h k x hx
  cases e
  exact ⟨g, 0, rfl, Nat.lt_of_lt_of_le hl hg.size, (World.cell?_of_block (a := ⟨g, 0 + k, none⟩) (hg.block g hl hne)).trans hc⟩

/-- what an append onto one of two rows leaves of all else -/
theorem keep_apart {w wr w3 : World} {u v u' : Value} {g n m : Nat} {us vs : List Value} {ts : List Int} (o : Obj) (hu : wr.ownsRow w.heap.size 3 1 u n us) (hv : wr.ownsRow w.heap.size 3 1 v m vs) (hap : Apart u v g)
    (hrb : Rd wr (some ⟨g, 0, none⟩) ts) (hgl : g < wr.heap.size) (hB : Below w.heap.size w wr) (hgrow : ((wr.alloc o).drew).grownBy w3 u.ownBlock) (hat : u'.ownBlock = u.ownBlock ∨ u'.ownBlock = some ((wr.alloc o).drew).heap.size) :
    w3.ownsRow w.heap.size 3 1 v m vs ∧ Apart u' v g ∧ Rd w3 (some ⟨g, 0, none⟩) ts ∧ g < w3.heap.size ∧ Below w.heap.size w w3 := by
  have hs : ((wr.alloc o).drew).heap.size = wr.heap.size + 1 := by simp
  refine ⟨?_, hap.left hat (by omega) (fun k hk => by have := (hv.lt k hk).2; omega), ?_, ?_, own_step hu hB hB.size o hgrow⟩
  · refine (hv.alloc o).drew.kept hgrow ?_
    cases hk : v.ownBlock with
    | none => exact .inl rfl
    | some k => exact .inr fun e => hap.2.2 k e.symm hk
  · exact rd_grown (w := (wr.alloc o).drew) (hrb.below ((below_one wr o).drew)) hgrow (fun e => hap.1 g e.symm rfl)
  · have := hgrow.size
    omega
theorem pt_wrapI (k : Nat) (h : k < 4) : IntKind.i64.wrap (2 ^ k) = pt k := by
  rcases (by omega : k = 0 ∨ k = 1 ∨ k = 2 ∨ k = 3) with rfl | rfl | rfl | rfl <;> decide +kernel
theorem split_cells {w w3 : World} {b off g k : Nat} {xs : List Int} {x y : Int} (hB : Below w.heap.size w w3) (hrb : Rd w3 (some ⟨g, 0, none⟩) (turnL xs)) (hx : Rd w (some ⟨b, off, none⟩) xs) (h : xs[k]? = some x ∧ rowAt (turnL xs) k = y ∧ Rl xs.length xs) :
    w3.cell? ⟨b, off + k, none⟩ = some (.int .i64 x) ∧ w3.cell? ⟨g, k, none⟩ = some (.int .i64 y) := by
  obtain ⟨h1, h2, R⟩ := h
  have hk : k < xs.length := (List.getElem?_eq_some_iff.1 h1).1
  constructor
  · obtain ⟨b2, off2, e, _, hc⟩ := (hx.below hB) k x h1
    cases e
    exact hc
  · obtain ⟨b2, off2, e, _, hc⟩ := hrb k y (by rw [rowAt_get (by rw [R.turn.len]; exact hk), h2])
    cases e
    rw [Nat.zero_add] at hc
    exact hc
set_option maxRecDepth 100000 in
set_option maxHeartbeats 8000000 in
theorem specKindSplit_any (ao : Option Addr) (ca : Nat) (xs : List Int) (w : World) (hl : xs.length ≤ 1048576) (hx : Rd w ao xs) :
    Calls Try.prog 30 #[.slice ao xs.length ca] w (GaveLLS w (ifR (relIn xs) (turnsL xs)) (ifR (relIn xs) (oneWayL xs)) (relIn xs)) := by
  have B0 := below_two w (.cells #[] 3) (.cells #[] 3)
  have hx0 := hx.below B0
  have h1 := specRelIn_any ao ca xs ((w.alloc (.cells #[] 3)).alloc (.cells #[] 3)) hl hx0
  have oX := (row_lit0 w).alloc (.cells #[] 3)
  have oY := row_lit0 (w.alloc (.cells #[] 3))
  rw [World.size_alloc] at oY
  cases hp : relIn xs with
  | false =>
    rw [hp] at h1
    have H1 := Lib.hid h1
    have HO := Lib.hid (And.intro oX (And.intro oY B0))
    clear h1 hp oX oY B0 hx0
    go_enter Try.func30, Try.ntmps30
    go_wp2_with (go_at_call 52; refine H1.out.mono ?_; rintro e w1 ⟨rfl, hd⟩)
    go_ret3
    have B1 := HO.out.2.2.trans (hd.below _)
    exact ⟨_, _, rfl, OwnR.made (xs := []) (hd.row HO.out.1), OwnR.made (xs := []) (own_mono (hd.row HO.out.2.1) (Nat.le_succ _)), B1⟩
  | true =>
    rw [hp] at h1
    have H1 := Lib.hid h1
    have R := Lib.hid (Rl.of hp)
    have h4 := R.out.four
    have h10 := R.out.one
    obtain ⟨i0, hi, hz0, hz1, hz2⟩ := info_parts Try.info3
    clear h1 hp
    go_enter Try.func30, Try.ntmps30
    go_wp2_with fail
    refine H1.out.mono ?_
    rintro e w1 ⟨rfl, hd⟩
    have hx1 := hd.rd hx0
    have B1 := B0.trans (hd.below _)
    have oX1 := hd.row oX
    have oY1 := own_mono (hd.row oY) (Nat.le_succ _)
    have hs1 : w1.heap.size = w.heap.size + 1 + 1 := by rw [hd.heap]; simp
    clear hd oX oY B0 hx0
    go_wp2_with fail
    refine (sTurn R.out _ _ _ hx1).mono ?_
    rintro e w2 ⟨vb, rfl, hbo, hb2⟩
    obtain ⟨g, qb, rfl, hg1, hg2, hrb⟩ := GaveL.form hbo (Rl.pos R.out.turn)
    have hx2 := hx1.below hb2
    have B2 := B1.trans (hb2.mono B1.size)
    have oX2 := own_keep oX1 hb2 (fun q hq => (oX1.lt q hq).2)
    have oY2 := own_keep oY1 hb2 (fun q hq => (oY1.lt q hq).2)
    have hap : Apart (.slice (some ⟨w.heap.size, 0, none⟩) 0 0) (.slice (some ⟨w.heap.size + 1, 0, none⟩) 0 0) g :=
      ⟨fun k hk => (by have hk := Option.some.inj hk; simp only at hk; omega), fun k hk => (by have hk := Option.some.inj hk; simp only at hk; omega), fun k hk e => (by have hk := Option.some.inj hk; have e := Option.some.inj e; simp only at hk e; omega)⟩
    have hbl : (turnL xs).length = xs.length := R.out.turn.len
    rw [hbl]
    clear hx1 B1 oX1 oY1 hb2 hbo hbl hg1 hs1
    go_wp2
    go_loopw [5, 6, 8] (fun u v i wr => ∃ k : Nat, k ≤ xs.length ∧ i = .int .i64 k ∧ wr.ownsRow w.heap.size 3 1 u k (((splitX xs).take k).map (Value.int .i64)) ∧ wr.ownsRow w.heap.size 3 1 v k (((splitY xs).take k).map (Value.int .i64)) ∧ Apart u v g ∧ Rd wr (some ⟨g, 0, none⟩) (turnL xs) ∧ g < wr.heap.size ∧ Below w.heap.size w wr)
      (fun _ _ i _ => xs.length - (intOf i).toNat)
    case atStart => exact ⟨0, Nat.zero_le _, rfl, oX2, oY2, hap, hrb, hg2, B2⟩
    case round =>
      clear oX2 oY2 hap hrb hg2 B2 hx2
      obtain ⟨k, hk, rfl, oX, oY, hap, hrb, hgl, hB⟩ := hrel
      by_cases hlt : k < xs.length
      · obtain ⟨b, off, x, hxk, rfl, hbl, hc1⟩ := (hx.below hB).get k hlt
        have hcy : wr.cell? ⟨g, 0 + k, none⟩ = some (.int .i64 (rowAt (turnL xs) k)) := by
          obtain ⟨b2, off2, y2, hyk, e2, _, hc2⟩ := hrb.get k (by rw [R.out.turn.len]; exact hlt)
          cases e2
          rw [rowAt_get (by rw [R.out.turn.len]; exact hlt)] at hyk
          rw [Option.some.inj hyk]
          exact hc2
        rw [Nat.zero_add] at hcy
        have hxe : x = rowAt xs k := by
          rw [rowAt_get hlt] at hxk
          exact (Option.some.inj hxk).symm
        obtain ⟨y, hy⟩ : ∃ y, rowAt (turnL xs) k = y := ⟨_, rfl⟩
        rw [hy] at hcy
        have hi1 : ((k : Nat) : Int) < (xs.length : Int) := by omega
        have hpt : IntKind.i64.wrap (2 ^ k) = pt k := pt_wrapI k (by omega)
        have hsx : (splitX xs).take (k + 1) = (splitX xs).take k ++ [bits .andNot .i64 (bits .and .i64 x y) (pt k)] := by rw [hxe, ← hy]; exact split_take _ _ _ hlt
        have hsy : (splitY xs).take (k + 1) = (splitY xs).take k ++ [bits .andNot .i64 (bits .andNot .i64 x y) (pt k)] := by rw [hxe, ← hy]; exact split_take _ _ _ hlt
        have HS := Lib.hid (And.intro hsx (And.intro hsy hap))
        have HRB := Lib.hid hrb
        have HPT := Lib.hid hpt
        have HXA := Lib.hid hx
        have HX := Lib.hid (And.intro hxk (And.intro hy R.out))
        clear hxk hxe hy hpt hsx hsy hap hrb hx
        go_wp2
        go_cut [5] from 18 to 53 (fun u' W => W.ownsRow w.heap.size 3 1 u' (k + 1) (((splitX xs).take (k + 1)).map (Value.int .i64)) ∧ W.ownsRow w.heap.size 3 1 u6 k (((splitY xs).take k).map (Value.int .i64)) ∧ Apart u' u6 g ∧ Rd W (some ⟨g, 0, none⟩) (turnL xs) ∧ g < W.heap.size ∧ Below w.heap.size w W)
        case first =>
          go_region_law (refine step_append_own_at rfl (.tmp 24) (.tmp 37) 23 rfl w.heap.size 3 i0 (.int .i64 0) 1 8 Try.underlying23 hi hz0 hz1 hz2 rfl (by decide) _ _ _ rfl (oX.alloc _).drew ⟨wr.heap.size, 0, none⟩ 1 1 [_] rfl rfl (cell_one_new _ _ _) (by simp [Value.oneCell']) (by unfold maxLen; omega) (by omega) (by have := hB.size; simp; omega) ?_; intro v' w3 hown' hgrow hat)
          all_goals
            have hk3 := keep_apart _ oX oY HS.out.2.2 HRB.out hgl hB hgrow hat
            rw [HPT.out, ← List.map_singleton (f := Value.int .i64), ← List.map_append, ← HS.out.1] at hown'
            have HK := Lib.hid hk3
            clear hk3 hgrow hat oX oY hB hgl hc1 hcy
            go_wp2
            go_meet
            case rel => exact ⟨hown', HK.out.1, HK.out.2.1, HK.out.2.2.1, HK.out.2.2.2.1, HK.out.2.2.2.2⟩
        case rest =>
          clear oX oY hB hgl hc1 hcy hbl
          obtain ⟨oX, oY, hap3, hrb3, hgl, hB⟩ := hcut
          obtain ⟨hc1, hcy⟩ := split_cells hB hrb3 HXA.out HX.out
          have HAP := Lib.hid hap3
          have HRB3 := Lib.hid hrb3
          clear hap3 hrb3
          go_wp2
          go_region_law (refine step_append_own_at rfl (.tmp 39) (.tmp 52) 23 rfl w.heap.size 3 i0 (.int .i64 0) 1 8 Try.underlying23 hi hz0 hz1 hz2 rfl (by decide) _ _ _ rfl (oY.alloc _).drew ⟨wc.heap.size, 0, none⟩ 1 1 [_] rfl rfl (cell_one_new _ _ _) (by simp [Value.oneCell']) (by unfold maxLen; omega) (by omega) (by have := hB.size; simp; omega) ?_; intro v2 w4 hown2 hgrow2 hat2)
          all_goals
            have hk4 := keep_apart _ oY oX HAP.out.symm HRB3.out hgl hB hgrow2 hat2
            rw [HPT.out, ← List.map_singleton (f := Value.int .i64), ← List.map_append, ← HS.out.2.1] at hown2
            have HK := Lib.hid hk4
            clear hk4 hgrow2 hat2 oX oY hB hgl hc1 hcy
            go_wp2
            go_roundw
            case rel => exact ⟨k + 1, by omega, by go_num, HK.out.1, hown2, HK.out.2.1.symm, HK.out.2.2.1, HK.out.2.2.2.1, HK.out.2.2.2.2⟩
            case measure => simp [intOf]; omega
      · obtain rfl : k = xs.length := by omega
        have e1 := splitX_eq R.out
        have e2 := splitY_eq R.out
        rw [List.take_of_length_le (by rw [splitX_len]; exact Nat.le_refl _), e1] at oX
        rw [List.take_of_length_le (by rw [splitY_len]; exact Nat.le_refl _), e2] at oY
        have l1 : (turnsL xs).length = xs.length := R.out.turns.len
        have l2 : (oneWayL xs).length = xs.length := R.out.oneWay.len
        have HL := Lib.hid (And.intro l1 l2)
        clear e1 e2 l1 l2 hap hrb
        go_wp2
        go_ret3
        exact ⟨_, _, rfl, OwnR.made (xs := turnsL xs) (by rw [HL.out.1]; exact oX), OwnR.made (xs := oneWayL xs) (by rw [HL.out.2]; exact oY), hB⟩
end Go.Proofs.Ytpbkgdohfnjjpaa
