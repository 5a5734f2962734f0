/-
  The program's OrderWays and OrderFirst; for lists of at most 2^20 numbers.
-/
import Derived.Test.YtillmjnkhkcedaaOC
import Derived.Test.YtillmjnkhkcedaaOL
import Derived.Test.YtillmjnkhkcedaaOM
import Derived.Deep.RegionHeldLaw
import Derived.Laws.Cover3
import Derived.Laws.EntriesVeiled
namespace Go.Proofs.Ytillmjnkhkcedaa
open Go.RowKit Go.Shelf
attribute [local go_sem] Oper.semAt_some

/-- a list copied -/
theorem clone_any (v : Value) (us : List Int) (w : World) (base : Nat) (hne : 1 ≤ us.length) (hl : us.length ≤ 4) (ho : w.ownsRow base 3 1 v us.length (us.map (Value.int .i64))) :
    Calls Try.prog 81 #[v] w fun e w' => ∃ v', e = .returned v' ∧ w'.ownsRow w.heap.size 3 1 v' us.length (us.map (Value.int .i64)) ∧ Below w.heap.size w w' := by
  obtain ⟨i0, hi, hz0, hz1, hz2⟩ := info_parts Try.info3
  rcases ho.2 with ⟨rfl, h0⟩ | ⟨g, cap, cur, rfl, hb, hg, hnc, hcm, hcs, ht⟩
  · omega
  · have hce := ho.cells (g := g) rfl
    have hlt : g < w.heap.size := (Array.getElem?_eq_some_iff.1 hg).1
    have hcn : ∀ j u, (us.map (Value.int .i64))[j]? = some u → (w.alloc (.cells #[] 3)).cell? ((⟨g, 0, none⟩ : Addr).add j) = some u := fun j u hu => by
      have h1 := hce j u hu
      rw [← h1]
      exact World.cell?_of_block (Below.heap_alloc w _ _ (World.block_lt_of_cell? w _ h1))
    have HN := Lib.hid hcn
    have hE : ∀ w, Sem.run Try.prog (binOp .eql 22 (.slice (some ⟨g, 0, none⟩) us.length cap) (.slice none 0 0)) w = .ok (.bool false) w := fun w => by
      simp only [binOp]
      simp [run_equal_slice_nil w _ _ (some ⟨g, 0, none⟩) us.length cap Try.underlying22]
    clear hce hg hnc hcs ht ho hcn
    go_enter Try.func81, Try.ntmps81
    go_wp2_with (at_builtin; refine wpList_append_own _ rfl (.tmp 5) (.tmp 6) 22 rfl w.heap.size 3 i0 (.int .i64 0) 1 8 Try.underlying22 hi hz0 hz1 hz2 rfl (by decide) _ _ _ rfl (row_lit0 w) ⟨g, 0, none⟩ us.length cap (us.map (Value.int .i64)) rfl (by simp) HN.out (by simp [Value.oneCell']) (by unfold maxLen; omega) (by omega) (by simp) ?_)
    intro v' w1 hown hgrow _
    have hB : Below w.heap.size w w1 := (below_one w _).grown hgrow (by simp) (by intro k hk; simp [Value.ownBlock] at hk; omega)
    clear hgrow
    go_wp2
    go_ret
    exact ⟨v', rfl, hown, hB⟩

/-- what the closure needs: the order, the points ahead, the yield, itself -/
structure Ctx (W : World) (Bo By Ba Bg l : Nat) (xs bk : List Int) : Prop where
  o : OrdAt W Bo xs
  a : RelAt W Ba bk
  y : Boxed W By 23 (.func (.yield l) #[] #[])
  g : Boxed W Bg 79 (.func (.func 80) #[] #[.pointer (some ⟨Bo, 0, none⟩), .pointer (some ⟨By, 0, none⟩), .pointer (some ⟨Ba, 0, none⟩), .pointer (some ⟨Bg, 0, none⟩)])

/-- all cells lie as they lay, but those of block X and of a list's own block -/
def KeepX (X : Nat) (v : Value) (W W' : World) : Prop :=
  W.heap.size ≤ W'.heap.size ∧ ∀ b o, b ≠ X → some b ≠ v.ownBlock → W.heap[b]? = some o → o.isCells = true → W'.heap[b]? = some o
theorem KeepX.refl (X : Nat) (v : Value) (W : World) : KeepX X v W W := ⟨Nat.le_refl _, fun _ _ _ _ h _ => h⟩
theorem KeepX.trans {X : Nat} {v : Value} {A B C : World} (h : KeepX X v A B) (k : KeepX X v B C) : KeepX X v A C :=
  ⟨Nat.le_trans h.1 k.1, fun b _ hX hv ho hc => k.2 b _ hX hv (h.2 b _ hX hv ho hc) hc⟩
theorem KeepX.below {X : Nat} {v : Value} {A B : World} (h : Below A.heap.size A B) : KeepX X v A B :=
  ⟨h.size, fun b _ _ _ ho _ => (h.block b (Array.getElem?_eq_some_iff.1 ho).1).trans ho⟩
theorem KeepX.drew {X : Nat} {v : Value} (A : World) : KeepX X v A A.drew := ⟨Nat.le_refl _, fun _ _ _ _ h _ => h⟩
theorem keep_row {X : Nat} {u v : Value} {A B : World} {base : Nat} {e : TypeId} {n : Nat} {us : List Value} (h : KeepX X u A B) (ho : A.ownsRow base e 1 v n us) (hX : ∀ q, v.ownBlock = some q → q ≠ X) (hv : ∀ q, v.ownBlock = some q → some q ≠ u.ownBlock) :
    B.ownsRow base e 1 v n us := by
  refine ⟨ho.1, ?_⟩
  rcases ho.2 with h2 | ⟨g, cap, cur, rfl, hb, hg, hr⟩
  · exact .inl h2
  · exact .inr ⟨g, cap, cur, rfl, hb, h.2 g _ (hX g rfl) (hv g rfl) hg rfl, hr⟩
theorem Ctx.keep {W W' : World} {Bo By Ba Bg l X G : Nat} {xs bk : List Int} {v : Value} (h : Ctx W Bo By Ba Bg l xs bk) (k : KeepX X v W W') (hv : ∀ q, v.ownBlock = some q → G ≤ q)
    (h1 : Bo ≠ X ∧ By ≠ X ∧ Ba ≠ X ∧ Bg ≠ X) (h2 : Bo < G ∧ By < G ∧ Ba < G ∧ Bg < G) : Ctx W' Bo By Ba Bg l xs bk := by
  have hne : ∀ b, b < G → some b ≠ v.ownBlock := fun b hb e => by have := hv b e.symm; omega
  exact ⟨k.2 _ _ h1.1 (hne _ h2.1) h.o rfl, k.2 _ _ h1.2.2.1 (hne _ h2.2.2.1) h.a rfl, k.2 _ _ h1.2.1 (hne _ h2.2.1) h.y rfl, k.2 _ _ h1.2.2.2 (hne _ h2.2.2.2) h.g rfl⟩

/-- what the range's body does with a way -/
def YieldsW (l X B0 n : Nat) (ws : List (List Int)) (J Jx : List (List Int) → World → Prop) : Prop :=
  ∀ pre x vx W, (∃ rest, ws = pre ++ x :: rest) → J pre W → x.length = n → W.ownsRow B0 3 1 vx n (x.map (Value.int .i64)) →
    ∀ m, YieldAt Fence.wide m Try.prog l #[vx] W fun e W' => ∃ b : Bool, e = .returned (.bool b) ∧ KeepX X (.slice none 0 0) W W' ∧ (b = true → J (pre ++ [x]) W') ∧ (b = false → Jx (pre ++ [x]) W')
theorem keepX_nil {X : Nat} {v : Value} {A B : World} (h : KeepX X (.slice none 0 0) A B) : KeepX X v A B := ⟨h.1, fun b _ hX _ ho hc => h.2 b _ hX (by simp [Value.ownBlock]) ho hc⟩

def GoPost (X G : Nat) (J Jx : List (List Int) → World → Prop) (done : List (List Int)) (v : Value) (us : List Int) (W : World) (e : Ending) (W' : World) : Prop :=
  ∃ b : Bool, e = .returned (.bool b) ∧ KeepX X v W W' ∧ W'.ownsRow G 3 1 v us.length (us.map (Value.int .i64)) ∧ (b = true → J done W') ∧ (b = false → ∃ p, Jx p W')

theorem leaf_yield {l X B0 G Bo By Ba Bg : Nat} {xs bk us : List Int} {ws pre : List (List Int)} {J Jx : List (List Int) → World → Prop} {v : Value} {W w2 : World} {C : Prop} {v2 : Value}
    (H : C ∧ (∀ vx W, (∃ rest, ws = pre ++ us :: rest) → J pre W → us.length = xs.length → W.ownsRow B0 3 1 vx xs.length (us.map (Value.int .i64)) →
      ∀ m, YieldAt Fence.wide m Try.prog l #[vx] W fun e W' => ∃ b : Bool, e = .returned (.bool b) ∧ KeepX X (.slice none 0 0) W W' ∧ (b = true → J (pre ++ [us]) W') ∧ (b = false → Jx (pre ++ [us]) W')) ∧
      (∀ p A B, J p A → Below B0 A B → J p B) ∧ (∃ rest, ws = pre ++ us :: rest) ∧ J pre W ∧ W.ownsRow G 3 1 v us.length (us.map (Value.int .i64)) ∧ Ctx W Bo By Ba Bg l xs bk ∧ X < B0 ∧ B0 ≤ G ∧ G ≤ W.heap.size ∧ us.length = xs.length)
    (o2 : w2.ownsRow W.heap.size 3 1 v2 us.length (us.map (Value.int .i64))) (b2 : Below W.heap.size W.drew w2) (m : Nat) :
    YieldAt Fence.wide m Try.prog l #[v2] w2 fun e W' => ∃ b : Bool, e = .returned (.bool b) ∧ KeepX X v W W' ∧ W'.ownsRow G 3 1 v us.length (us.map (Value.int .i64)) ∧ (b = true → J (pre ++ [us]) W') ∧ (b = false → Jx (pre ++ [us]) W') := by
  obtain ⟨_, hY, hJ, hw, hp, ho, hc, hX, hG, hGW, hn⟩ := H
  have B2 : Below W.heap.size W w2 := ((Below.refl W.heap.size W).drew).trans b2
  have h := hY v2 w2 hw (hJ pre W w2 hp (B2.mono (by omega))) hn (by rw [← hn]; exact own_mono o2 (by omega)) m
  obtain ⟨fn, tmps, assign, body, hy, hR⟩ := h
  refine ⟨fn, tmps, assign, body, hy, hR.mono ?_⟩
  rintro e W' ⟨b, rfl, h0, h1, h2⟩
  have hown : ∀ q, v.ownBlock = some q → q ≠ X := fun q hq => by have := (ho.lt q hq).1; omega
  have o3 : w2.ownsRow G 3 1 v us.length (us.map (Value.int .i64)) := own_keep ho B2 (fun q hq => (ho.lt q hq).2)
  exact ⟨b, rfl, (KeepX.below B2).trans (keepX_nil h0), keep_row h0 o3 hown (fun q _ => by simp [Value.ownBlock]), h1, h2⟩

set_option maxRecDepth 100000 in
set_option maxHeartbeats 8000000 in
theorem goOn_leaf {l X B0 G Bo By Ba Bg : Nat} {xs bk : List Int} {ws : List (List Int)} {J Jx : List (List Int) → World → Prop} (R : Rl xs.length xs)
    (hJ : ∀ p A B, J p A → Below B0 A B → J p B) (hY : YieldsW l X B0 xs.length ws J Jx) (hX : X < B0) (hG : B0 ≤ G)
    (us : List Int) (u : Int) (v : Value) (W : World) (pre : List (List Int)) (hn : us.length = xs.length) (hc : Ctx W Bo By Ba Bg l xs bk)
    (ho : W.ownsRow G 3 1 v us.length (us.map (Value.int .i64))) (hp : J pre W) (hw : ∃ rest, ws = pre ++ us :: rest) (hGW : G ≤ W.heap.size) :
    Calls Try.prog 80 #[v, .int .i64 u, .pointer (some ⟨Bo, 0, none⟩), .pointer (some ⟨By, 0, none⟩), .pointer (some ⟨Ba, 0, none⟩), .pointer (some ⟨Bg, 0, none⟩)] W (GoPost X G J Jx (pre ++ [us]) v us W) := by
  have h1 := R.one
  have h4 := R.four
  refine (callsIn_wide (n := 6)).1 ?_
  have hmo : Try.prog.follows .mixedOrders = true := by kernel_rfl
  have hcl := fun W (h : W.ownsRow G 3 1 v us.length (us.map (Value.int .i64))) => clone_any v us W G (by omega) (by omega) h
  obtain ⟨ao, cap, rfl, _⟩ := row_rd ho
  have c0 := hc.o.cell0
  have cy := hc.y.cell
  have hall := hY pre us
  have hn' : (us.length : Int) = (xs.length : Int) := by omega
  have H := Lib.hid (And.intro hcl (And.intro hall (And.intro hJ (And.intro hw (And.intro hp (And.intro ho (And.intro hc (And.intro hX (And.intro hG (And.intro hGW hn))))))))))
  clear hcl hall hJ hY hw hp ho hc R hX hG hGW hn
  refine callsIn_of_wp Try.func80 rfl trivial ?_ rfl
  simp only [Try.ntmps80, List.size_toArray, List.length_cons, List.length_nil, Nat.reduceAdd, Nat.reduceSub, Array.replicate_succ, Array.replicate_zero, List.push_toArray, List.append_toArray, List.nil_append, List.cons_append]
  gi_wp2
  gi_region_with_o (first
    | (refine ⟨trivial, ?_⟩; gi_at_call 81; refine (callsIn_wide.2 (H.out.1 W.drew H.out.2.2.2.2.2.1)).mono ?_; rintro e w2 ⟨v2, rfl, o2, b2⟩; have cy2 : w2.cell? ⟨By, 0, none⟩ = some (.func (.yield l) #[] #[]) := Boxed.cell ((b2.block By H.out.2.2.2.2.2.2.1.y.lt).trans H.out.2.2.2.2.2.2.1.y); obtain ⟨fn, tmps, assign, body, hy, hR⟩ := leaf_yield H.out o2 b2 5)
    | (refine hR.mono ?_; rintro e w3 ⟨b, rfl, hb⟩))
  all_goals
    gi_wp2
    go_ret
    exact ⟨b, rfl, hb.1, hb.2.1, hb.2.2.1, fun h => ⟨_, hb.2.2.2 h⟩⟩

theorem cf_go (args : Array Value) (w : World) : Sem.run Try.prog (callFunc 80 args) w = .ok (.enter 80 args) w := by kernel_rfl
theorem free_no1 {bk : List Int} {u : Int} {k : Nat} (h : hasB u k = true) : freeB bk u k = false := by unfold freeB; rw [h]; rfl
theorem free_no2 {bk : List Int} {u : Int} {k : Nat} (h : partB (rowAt bk k) u = false) : freeB bk u k = false := by unfold freeB; rw [h, Bool.and_false]
theorem free_yes {bk : List Int} {u : Int} {k : Nat} (h : hasB u k = false) (h2 : partB (rowAt bk k) u = true) : freeB bk u k = true := by unfold freeB; rw [h, h2]; rfl
theorem goTo_no {n : Nat} {bk : List Int} {m : Nat} {b : List Int} {u : Int} {k : Nat} (h : freeB bk u k = false) : goTo n bk m b u (k + 1) = goTo n bk m b u k := by
  rw [goTo_succ, h]
  simp
theorem goTo_yes {n : Nat} {bk : List Int} {m : Nat} {b : List Int} {u : Int} {k : Nat} (h : freeB bk u k = true) : goTo n bk m b u (k + 1) = goTo n bk m b u k ++ goL n bk m (b ++ [(k : Int)]) (bits .or .i64 u (pt k)) := by
  rw [goTo_succ, h, if_pos rfl]

theorem keepX_push {X : Nat} {v : Value} {w w1 : World} (o : Obj) (hg : (w.drew.alloc o).grownBy w1 v.ownBlock) : KeepX X v w w1 := by
  have h1 : w.heap.size + 1 ≤ w1.heap.size := by have := hg.size; simp at this; exact this
  refine ⟨by omega, fun b o' _ hv ho _ => ?_⟩
  have hlt := (Array.getElem?_eq_some_iff.1 ho).1
  rw [hg.block b (by simp; omega) hv]
  exact (Below.heap_alloc w.drew o b hlt).trans ho
/-- behind the call with the longer list, the shorter one is as it was -/
theorem grew_back {X : Nat} {w w1 w2 : World} {v v' : Value} {us : List Int} {x : Int} {G : Nat} {o : Obj} (ho : w.ownsRow G 3 1 v us.length (us.map (Value.int .i64)))
    (hgrow : (w.drew.alloc o).grownBy w1 v.ownBlock) (hgr : Grew (w.drew.alloc o) w1 v v' us.length) (hk : KeepX X v' w1 w2) (ho2 : w2.ownsRow G 3 1 v' (us ++ [x]).length ((us ++ [x]).map (Value.int .i64))) (hX : ∀ q, v.ownBlock = some q → q ≠ X) :
    w2.ownsRow G 3 1 v us.length (us.map (Value.int .i64)) ∧ KeepX X v w w2 := by
  have k1 : KeepX X v w w1 := keepX_push o hgrow
  rcases hgr with ⟨g, cap, rfl, rfl⟩ | ⟨hv', hg⟩
  · rw [List.length_append, List.map_append] at ho2
    exact ⟨own_back ho2, k1.trans hk⟩
  · have hvs : v'.ownBlock = some (w.heap.size + 1) := by rw [hv']; simp
    have o1 : w1.ownsRow G 3 1 v us.length (us.map (Value.int .i64)) := by
      have h0 : w.drew.ownsRow G 3 1 v us.length (us.map (Value.int .i64)) := ho
      refine (h0.alloc o).kept hg ?_
      cases v.ownBlock with
      | none => exact .inl rfl
      | some q => exact .inr (by simp)
    refine ⟨keep_row hk o1 hX (fun q hq => by rw [hvs]; intro e; cases e; have := (ho.lt _ hq).2; omega), Nat.le_trans k1.1 hk.1, fun b o' hbX _ hbo hcell => ?_⟩
    have hlt := (Array.getElem?_eq_some_iff.1 hbo).1
    have h1 : w1.heap[b]? = some o' := by
      rw [hg.block b (by simp; omega) (by simp)]
      exact (Below.heap_alloc w.drew o b hlt).trans hbo
    exact hk.2 b o' hbX (by rw [hvs]; intro e; cases e; omega) h1 hcell

/-- the call in a round -/
theorem step_call {l X B0 G Bo By Ba Bg m k n : Nat} {xs bk us : List Int} {u : Int} {ws pre : List (List Int)} {J Jx : List (List Int) → World → Prop} {v v' : Value} {W wr w1 : World} {o : Obj}
    (IH : ∀ (us : List Int) (u : Int) (v : Value) (W : World) (pre : List (List Int)), us.length + m = n → Ctx W Bo By Ba Bg l xs bk →
      W.ownsRow G 3 1 v us.length (us.map (Value.int .i64)) → J pre W → (∃ rest, ws = pre ++ goL n bk m us u ++ rest) → G ≤ W.heap.size →
      Calls Try.prog 80 #[v, .int .i64 u, .pointer (some ⟨Bo, 0, none⟩), .pointer (some ⟨By, 0, none⟩), .pointer (some ⟨Ba, 0, none⟩), .pointer (some ⟨Bg, 0, none⟩)] W (GoPost X G J Jx (pre ++ goL n bk m us u) v us W))
    (hJ : ∀ p A B, J p A → Below B0 A B → J p B) (hw : ∃ rest, ws = pre ++ goL n bk (m + 1) us u ++ rest) (hX : X < B0) (hG : B0 ≤ G)
    (hBX : Bo ≠ X ∧ By ≠ X ∧ Ba ≠ X ∧ Bg ≠ X) (hBG : Bo < G ∧ By < G ∧ Ba < G ∧ Bg < G) (hn : us.length + (m + 1) = n) (hk : k < n) (hf : freeB bk u k = true)
    (hc : Ctx wr Bo By Ba Bg l xs bk) (ho : wr.ownsRow G 3 1 v us.length (us.map (Value.int .i64))) (hkp : KeepX X v W wr) (hp : J (pre ++ goTo n bk m us u k) wr) (hGW : G ≤ wr.heap.size)
    (hown' : w1.ownsRow G 3 1 v' (us.length + 1) (us.map (Value.int .i64) ++ [.int .i64 (k : Int)])) (hgrow : (wr.drew.alloc o).grownBy w1 v.ownBlock) (hgr : Grew (wr.drew.alloc o) w1 v v' us.length) :
    Ctx w1 Bo By Ba Bg l xs bk ∧ Calls Try.prog 80 #[v', .int .i64 (bits .or .i64 u (pt k)), .pointer (some ⟨Bo, 0, none⟩), .pointer (some ⟨By, 0, none⟩), .pointer (some ⟨Ba, 0, none⟩), .pointer (some ⟨Bg, 0, none⟩)] w1 fun e W' =>
      ∃ b : Bool, e = .returned (.bool b) ∧ Ctx W' Bo By Ba Bg l xs bk ∧ W'.ownsRow G 3 1 v us.length (us.map (Value.int .i64)) ∧ KeepX X v W W' ∧ G ≤ W'.heap.size ∧ (b = true → J (pre ++ goTo n bk m us u (k + 1)) W') ∧ (b = false → ∃ p, Jx p W') := by
  have hown : ∀ q, v.ownBlock = some q → G ≤ q := fun q hq => (ho.lt q hq).1
  have hvX : ∀ q, v.ownBlock = some q → q ≠ X := fun q hq => by have := hown q hq; omega
  have k1 : KeepX X v wr w1 := keepX_push o hgrow
  have c1 := hc.keep k1 hown hBX hBG
  have hB : Below G wr.drew w1 := own_step' (w := wr.drew) (show wr.drew.ownsRow G 3 1 v us.length (us.map (Value.int .i64)) from ho) (Below.refl G wr.drew) hGW o hgrow
  have hB1 : Below G wr w1 := ((Below.refl G wr).drew).trans hB
  have hp1 := hJ _ _ _ hp (hB1.mono hG)
  have o1 : w1.ownsRow G 3 1 v' (us ++ [(k : Int)]).length ((us ++ [(k : Int)]).map (Value.int .i64)) := by
    rw [List.length_append, List.map_append]
    exact hown'
  have hgy := goTo_yes (n := n) (m := m) (b := us) hf
  obtain ⟨rest, hr⟩ := hw
  obtain ⟨r2, hr2⟩ := goTo_split n bk m us u k hk
  rw [hgy] at hr2
  have h := IH (us ++ [(k : Int)]) (bits .or .i64 u (pt k)) v' w1 (pre ++ goTo n bk m us u k) (by rw [List.length_append]; simp; omega) c1 o1 hp1 ⟨r2 ++ rest, by rw [hr, hr2]; simp only [List.append_assoc]⟩ (Nat.le_trans hGW k1.1)
  refine ⟨c1, h.mono ?_⟩
  rintro e W' ⟨b, rfl, k2, o2, ht, hff⟩
  have gb := grew_back ho hgrow hgr k2 o2 hvX
  refine ⟨b, rfl, hc.keep gb.2 hown hBX hBG, gb.1, hkp.trans gb.2, Nat.le_trans hGW gb.2.1, fun hb => ?_, hff⟩
  rw [hgy, ← List.append_assoc]
  exact ht hb

set_option maxRecDepth 100000 in
set_option maxHeartbeats 8000000 in
theorem goOn_step {l X B0 G Bo By Ba Bg m : Nat} {xs bk : List Int} {ws : List (List Int)} {J Jx : List (List Int) → World → Prop} (R : Rl xs.length xs)
    (hJ : ∀ p A B, J p A → Below B0 A B → J p B) (hX : X < B0) (hG : B0 ≤ G)
    (hBX : Bo ≠ X ∧ By ≠ X ∧ Ba ≠ X ∧ Bg ≠ X) (hBG : Bo < G ∧ By < G ∧ Ba < G ∧ Bg < G)
    (IH : ∀ (us : List Int) (u : Int) (v : Value) (W : World) (pre : List (List Int)), us.length + m = xs.length → Ctx W Bo By Ba Bg l xs bk →
      W.ownsRow G 3 1 v us.length (us.map (Value.int .i64)) → J pre W → (∃ rest, ws = pre ++ goL xs.length bk m us u ++ rest) → G ≤ W.heap.size →
      Calls Try.prog 80 #[v, .int .i64 u, .pointer (some ⟨Bo, 0, none⟩), .pointer (some ⟨By, 0, none⟩), .pointer (some ⟨Ba, 0, none⟩), .pointer (some ⟨Bg, 0, none⟩)] W (GoPost X G J Jx (pre ++ goL xs.length bk m us u) v us W))
    (us : List Int) (u : Int) (v : Value) (W : World) (pre : List (List Int)) (hn : us.length + (m + 1) = xs.length) (hc : Ctx W Bo By Ba Bg l xs bk)
    (ho : W.ownsRow G 3 1 v us.length (us.map (Value.int .i64))) (hp : J pre W) (hw : ∃ rest, ws = pre ++ goL xs.length bk (m + 1) us u ++ rest) (hGW : G ≤ W.heap.size) :
    Calls Try.prog 80 #[v, .int .i64 u, .pointer (some ⟨Bo, 0, none⟩), .pointer (some ⟨By, 0, none⟩), .pointer (some ⟨Ba, 0, none⟩), .pointer (some ⟨Bg, 0, none⟩)] W (GoPost X G J Jx (pre ++ goL xs.length bk (m + 1) us u) v us W) := by
  have h1 := R.one
  have h4 := R.four
  obtain ⟨i0, hi, hz0, hz1, hz2⟩ := info_parts Try.info3
  obtain ⟨ao, cap, rfl, _⟩ := row_rd ho
  have c0 := hc.o.cell0
  have hne : ((us.length : Int) == (xs.length : Int)) = false := beq_eq_false_iff_ne.2 (by omega)
  have hown : ∀ q, (Value.slice ao us.length cap).ownBlock = some q → G ≤ q := fun q hq => (ho.lt q hq).1
  have hul : us.length ≤ 3 := by omega
  have hcf := cf_go
  have H := Lib.hid (And.intro IH (And.intro hJ (And.intro hw (And.intro hX (And.intro hG (And.intro hBX (And.intro hBG (And.intro hown hn))))))))
  have HS := Lib.hid (And.intro hc (And.intro ho hp))
  have HGW := Lib.hid hGW
  clear IH hJ hw hX hG hBX hBG hown hn R hc ho hp hGW
  go_enter Try.func80, Try.ntmps80
  go_wp2
  go_loopw [23, 9] (fun i _ wr => ∃ k : Nat, k ≤ xs.length ∧ i = .int .i64 k ∧ Ctx wr Bo By Ba Bg l xs bk ∧ wr.ownsRow G 3 1 (.slice ao us.length cap) us.length (us.map (Value.int .i64)) ∧ KeepX X (.slice ao us.length cap) W wr ∧ J (pre ++ goTo xs.length bk m us u k) wr ∧ G ≤ wr.heap.size)
    (fun i _ _ => xs.length - (intOf i).toNat)
  case atStart => exact ⟨0, Nat.zero_le _, rfl, HS.out.1, HS.out.2.1, KeepX.refl _ _ _, by rw [show goTo xs.length bk m us u 0 = [] from rfl, List.append_nil]; exact HS.out.2.2, HGW.out⟩
  case round =>
    clear HS c0 HGW
    obtain ⟨k, hk, rfl, hc, ho, hkp, hp, hGW⟩ := hrel
    by_cases hlt : k < xs.length
    · have c1 := hc.a.row k (by omega)
      have hq : (k : Int) < 4 := by omega
      cases hz : hasB u k with
      | true =>
        have HI := Lib.hid (And.intro hc (And.intro ho (And.intro hkp (And.intro hp (And.intro hGW (goTo_no (n := xs.length) (m := m) (b := us) (free_no1 (bk := bk) hz)))))))
        clear hc ho hkp hp hGW
        go_wp2_with (go_at_call 77; refine (has_any _ k (by omega) _).mono ?_; rintro e w2 ⟨rfl, rfl⟩)
        go_roundw
        case rel => exact ⟨k + 1, by omega, by go_num, HI.out.1, HI.out.2.1, HI.out.2.2.1, by rw [HI.out.2.2.2.2.2]; exact HI.out.2.2.2.1, HI.out.2.2.2.2.1⟩
        case measure => simp [intOf]; omega
      | false =>
        cases hpb : partB (rowAt bk k) u with
        | false =>
          have HI := Lib.hid (And.intro hc (And.intro ho (And.intro hkp (And.intro hp (And.intro hGW (goTo_no (n := xs.length) (m := m) (b := us) (free_no2 (bk := bk) hpb)))))))
          clear hc ho hkp hp hGW
          go_wp2_with (first
            | (go_at_call 77; refine (has_any _ k (by omega) _).mono ?_; rintro e w2 ⟨rfl, rfl⟩)
            | (go_at_call 78; refine (isPartOf_any _ _ _).mono ?_; rintro e w2 ⟨rfl, rfl⟩))
          go_roundw
          case rel => exact ⟨k + 1, by omega, by go_num, HI.out.1, HI.out.2.1, HI.out.2.2.1, by rw [HI.out.2.2.2.2.2]; exact HI.out.2.2.2.1, HI.out.2.2.2.2.1⟩
          case measure => simp [intOf]; omega
        | true =>
          have hfy := free_yes hz hpb
          have cg := hc.g.cell
          have ho2 : wr.drew.ownsRow G 3 1 (.slice ao us.length cap) us.length (us.map (Value.int .i64)) := ho
          have HI := Lib.hid (And.intro hc (And.intro ho (And.intro hkp (And.intro hp (And.intro hGW hfy)))))
          clear hc ho hkp hp hGW hfy
          go_wp2_with (first
            | (go_at_call 77; refine (has_any _ k (by omega) _).mono ?_; rintro e w2 ⟨rfl, rfl⟩)
            | (go_at_call 78; refine (isPartOf_any _ _ _).mono ?_; rintro e w2 ⟨rfl, rfl⟩))
          go_region_held_law (fun w' => w'.cell? ⟨Bg, 0, none⟩ = some (.func (.func 80) #[] #[.pointer (some ⟨Bo, 0, none⟩), .pointer (some ⟨By, 0, none⟩), .pointer (some ⟨Ba, 0, none⟩), .pointer (some ⟨Bg, 0, none⟩)])) (go_keep) (first
            | (go_at_call 82; refine (with_any _ k (by omega) _).mono ?_; rintro e w2 ⟨rfl, rfl⟩)
            | (refine step_push rfl (.tmp 39) (.tmp 41) 22 rfl G 3 i0 (.int .i64 0) 8 Try.underlying22 hi hz0 hz1 hz2 rfl _ _ _ rfl (ho2.alloc _) ⟨wr.heap.size, 0, none⟩ 1 _ rfl (cell_one_new _ _ _) (by simp [Value.oneCell']) (by unfold maxLen; omega) (by omega) (by have := HI.out.2.2.2.2.1; simp; omega) ?_; intro v' w1 hown' hgrow hgr; have HCC := Lib.hid (step_call H.out.1 H.out.2.1 H.out.2.2.1 H.out.2.2.2.1 H.out.2.2.2.2.1 H.out.2.2.2.2.2.1 H.out.2.2.2.2.2.2.1 H.out.2.2.2.2.2.2.2.2 hlt HI.out.2.2.2.2.2 HI.out.1 HI.out.2.1 HI.out.2.2.1 HI.out.2.2.2.1 HI.out.2.2.2.2.1 hown' hgrow hgr); have c5 := HCC.out.1.g.cell; clear hown' hgrow hgr)
            | ((with_reducible refine HCC.out.2.mono ?_); rintro e w3 ⟨b, rfl, hc3, hb⟩; have c5 := hc3.g.cell))
          all_goals
            cases b with
            | true =>
              have HB := Lib.hid (And.intro hc3 (And.intro hb.1 (And.intro hb.2.1 (And.intro (hb.2.2.2.1 rfl) hb.2.2.1))))
              clear hb hc3
              go_wp2
              go_roundw
              case rel => exact ⟨k + 1, by omega, by go_num, HB.out⟩
              case measure => simp [intOf]; omega
            | false =>
              have HB := Lib.hid (And.intro hb.1 (And.intro hb.2.1 (hb.2.2.2.2 rfl)))
              clear hb hc3
              go_wp2
              go_ret
              exact ⟨false, rfl, HB.out.2.1, HB.out.1, fun h => Bool.noConfusion h, fun _ => HB.out.2.2⟩
    · obtain rfl : k = xs.length := by omega
      have HI := Lib.hid (And.intro ho (And.intro hkp hp))
      clear hc ho hkp hp
      go_wp2
      go_ret
      exact ⟨true, rfl, HI.out.2.1, HI.out.1, fun _ => HI.out.2.2, fun h => Bool.noConfusion h⟩

/-- one call of the closure -/
theorem goOn_any {l X B0 G Bo By Ba Bg : Nat} {xs bk : List Int} {ws : List (List Int)} {J Jx : List (List Int) → World → Prop} (R : Rl xs.length xs)
    (hJ : ∀ p A B, J p A → Below B0 A B → J p B) (hY : YieldsW l X B0 xs.length ws J Jx) (hX : X < B0) (hG : B0 ≤ G)
    (hBX : Bo ≠ X ∧ By ≠ X ∧ Ba ≠ X ∧ Bg ≠ X) (hBG : Bo < G ∧ By < G ∧ Ba < G ∧ Bg < G) :
    ∀ (m : Nat) (us : List Int) (u : Int) (v : Value) (W : World) (pre : List (List Int)), us.length + m = xs.length → Ctx W Bo By Ba Bg l xs bk →
      W.ownsRow G 3 1 v us.length (us.map (Value.int .i64)) → J pre W → (∃ rest, ws = pre ++ goL xs.length bk m us u ++ rest) → G ≤ W.heap.size →
      Calls Try.prog 80 #[v, .int .i64 u, .pointer (some ⟨Bo, 0, none⟩), .pointer (some ⟨By, 0, none⟩), .pointer (some ⟨Ba, 0, none⟩), .pointer (some ⟨Bg, 0, none⟩)] W (GoPost X G J Jx (pre ++ goL xs.length bk m us u) v us W)
  | 0, us, u, v, W, pre, hn, hc, ho, hp, hw, hGW => by
    obtain ⟨rest, hr⟩ := hw
    exact goOn_leaf R hJ hY hX hG us u v W pre hn hc ho hp ⟨rest, by rw [hr, show goL xs.length bk 0 us u = [us] from rfl]; simp⟩ hGW
  | m + 1, us, u, v, W, pre, hn, hc, ho, hp, hw, hGW =>
    goOn_step R hJ hX hG hBX hBG (goOn_any R hJ hY hX hG hBX hBG m) us u v W pre hn hc ho hp hw hGW
end Go.Proofs.Ytillmjnkhkcedaa

namespace Go.Proofs.Ytillmjnkhkcedaa
open Go.RowKit Go.Shelf
attribute [local go_sem] Oper.semAt_some

/-- the sequence, called with a range's yield -/
theorem ways1_any {l X Bo Ba : Nat} {xs bk : List Int} {ws : List (List Int)} {J Jx : List (List Int) → World → Prop} (R : Rl xs.length xs) (W : World)
    (hJ : ∀ p A B, J p A → Below W.heap.size A B → J p B) (hY : YieldsW l X W.heap.size xs.length ws J Jx) (hX : X < W.heap.size)
    (hBX : Bo ≠ X ∧ Ba ≠ X) (ho : OrdAt W Bo xs) (ha : RelAt W Ba bk) (hws : ws = goL xs.length bk xs.length [] 0) (hp : J [] W) :
    Calls Try.prog 79 #[.func (.yield l) #[] #[], .pointer (some ⟨Bo, 0, none⟩), .pointer (some ⟨Ba, 0, none⟩)] W fun e W' => (∃ v, e = .returned v) ∧ (J ws W' ∨ ∃ p, Jx p W') := by
  have hmf : ∀ (fn : Fn) (first cap : Array Value) (w : World), Sem.run Try.prog (Instr.makeFunc fn first cap) w = .ok (.func fn first cap) w := fun _ _ _ _ => rfl
  have hcf := cf_go
  have hol := ho.lt
  have hal := ha.lt
  have H := Lib.hid (fun (W2 : World) (hc : Ctx W2 Bo W.heap.size Ba (W.heap.size + 1) l xs bk) (hB : Below W.heap.size W W2) (hs : W.heap.size + 2 ≤ W2.heap.size) =>
    goOn_any R hJ hY hX (G := W.heap.size + 2) (by omega) ⟨hBX.1, by omega, hBX.2, by omega⟩ ⟨by omega, by omega, by omega, by omega⟩ xs.length [] 0 (.slice none 0 0) W2 [] (by simp) hc (World.ownsRow_nil _ _ _ _) (hJ _ _ _ hp hB) ⟨[], by rw [hws]; simp⟩ hs)
  have y1 := (Boxed.new W 23 (.func (.yield l) #[] #[])).alloc (.cells #[(.func (.func 80) #[] #[.pointer (some ⟨Bo, 0, none⟩), .pointer (some ⟨W.heap.size, 0, none⟩), .pointer (some ⟨Ba, 0, none⟩), .pointer (some ⟨W.heap.size + 1, 0, none⟩)])] 79)
  have g1 := Boxed.new (W.alloc (.cells #[.func (.yield l) #[] #[]] 23)) 79 (.func (.func 80) #[] #[.pointer (some ⟨Bo, 0, none⟩), .pointer (some ⟨W.heap.size, 0, none⟩), .pointer (some ⟨Ba, 0, none⟩), .pointer (some ⟨W.heap.size + 1, 0, none⟩)])
  rw [World.size_alloc] at g1
  have B1 := below_two W (.cells #[.func (.yield l) #[] #[]] 23) (.cells #[(.func (.func 80) #[] #[.pointer (some ⟨Bo, 0, none⟩), .pointer (some ⟨W.heap.size, 0, none⟩), .pointer (some ⟨Ba, 0, none⟩), .pointer (some ⟨W.heap.size + 1, 0, none⟩)])] 79)
  have o1 := ho.below B1 hol
  have a1 := ha.below B1 hal
  have qc := g1.cell
  have HC := Lib.hid (H.out _ ⟨o1, a1, y1, g1⟩ B1 (by simp))
  clear hJ hY ho ha hp hBX y1 B1 o1 a1 H g1
  go_enter Try.func79, Try.ntmps79
  go_wp2_with fail
  refine HC.out.mono ?_
  rintro e W' ⟨b, rfl, _, _, ht, hf⟩
  rw [List.nil_append, ← hws] at ht
  have HB := Lib.hid (And.intro ht hf)
  clear ht hf qc HC
  go_wp2
  go_end0
  refine ⟨⟨_, rfl⟩, ?_⟩
  cases b with
  | true => exact .inl (HB.out.1 rfl)
  | false => exact .inr (HB.out.2 rfl)

theorem ways_any {xs : List Int} (R : Rl xs.length xs) (w : World) :
    Calls Try.prog 54 #[relOf xs] w fun e w' => ∃ Ba : Nat, e = .returned (.func (.func 79) #[] #[.pointer (some ⟨w.heap.size, 0, none⟩), .pointer (some ⟨Ba, 0, none⟩)]) ∧
      w.heap.size < Ba ∧ OrdAt w' w.heap.size xs ∧ RelAt w' Ba (aheadL xs) ∧ Below w.heap.size w w' := by
  have hmf : ∀ (fn : Fn) (first cap : Array Value) (w : World), Sem.run Try.prog (Instr.makeFunc fn first cap) w = .ok (.func fn first cap) w := fun _ _ _ _ => rfl
  have x0 := OrdAt.new w xs
  have B0 := below_one w (.cells #[.int .i64 xs.length, .int .i64 (rowAt xs 0), .int .i64 (rowAt xs 1), .int .i64 (rowAt xs 2), .int .i64 (rowAt xs 3)] 46)
  have p0 := x0.cell0
  have p1 := x0.cell1
  have p2 := x0.cell2
  have p3 := x0.cell3
  have p4 := x0.cell4
  have H := Lib.hid (And.intro (fun w => offR R w) (fun w => turnedR R.off w))
  clear R
  unfold aheadL
  go_enter Try.func54, Try.ntmps54
  go_wp2_with fail
  refine (H.out.1 _).mono ?_
  rintro e w1 ⟨rfl, hb1⟩
  have x1 := x0.below hb1 x0.lt
  have B1 := B0.trans (hb1.mono B0.size)
  clear x0 B0 p0 p1 p2 p3 p4 hb1
  go_wp2_with fail
  refine (H.out.2 _).mono ?_
  rintro e w2 ⟨rfl, hb2⟩
  have x2 := x1.below hb2 x1.lt
  have B2 := B1.trans (hb2.mono B1.size)
  have hlt := x2.lt
  clear x1 B1 hb2
  go_wp2
  go_ret
  exact ⟨w2.heap.size, rfl, hlt, x2.alloc _, RelAt.new w2 _, B2.alloc B2.size _⟩

theorem cf_ways1 (args : Array Value) (w : World) : Sem.run Try.prog (callFunc 79 args) w = .ok (.enter 79 args) w := by kernel_rfl
theorem below_put {B l : Nat} {W : World} (o : Obj) (h : B ≤ l) : Below B W (W.putObj l o) :=
  ⟨rfl, rfl, rfl, by simp, fun k hk => World.putObj_heap_other (by omega)⟩
theorem keepX_put {X l : Nat} {v : Value} {W : World} {o : Obj} (o' : Obj) (hl : W.heap[l]? = some o) (ho : o.isCells = false) : KeepX X v W (W.putObj l o') :=
  ⟨by simp, fun b o2 _ _ hb hc => by
    by_cases e : b = l
    · subst e
      rw [hl] at hb
      cases hb
      rw [ho] at hc
      cases hc
    · exact (World.putObj_heap_other e).trans hb⟩

theorem keepX_set (X : Nat) (u : Value) (W : World) (v : Value) : KeepX X u W (W.setCell ⟨X, 0, none⟩ v) :=
  ⟨(KeepsOthers.setCell W ⟨X, 0, none⟩ v).size, fun b _ hX _ hb _ => (Below.heap_setCell W ⟨X, 0, none⟩ v b hX).trans hb⟩

/-! a range over the ways -/
section
variable {Q : Exit → Act → World → Prop} {a : Act} {w : World} {n : Nat}

theorem range_ways {g : Operand} {pt : Tmp} {assign body : Code} {X Bo Ba : Nat} {xs bk : List Int} {ws : List (List Int)} (R : Rl xs.length xs)
    (hg : a.eval g = .func (.func 79) #[] #[.pointer (some ⟨Bo, 0, none⟩), .pointer (some ⟨Ba, 0, none⟩)])
    (hX : X < w.heap.size) (hBX : Bo ≠ X ∧ Ba ≠ X) (ho : OrdAt w Bo xs) (ha : RelAt w Ba bk) (hws : ws = goL xs.length bk xs.length [] 0)
    (I : List (List Int) → World → Prop) (Ix : Code → List (List Int) → World → Prop)
    (hI : ∀ p A B, I p A → Below w.heap.size A B → I p B)
    (hIx : ∀ c p A l o o', Ix c p A → w.heap.size ≤ l → A.heap[l]? = some o → o.isCells = false → Ix c p (A.putObj l o'))
    (h0 : I [] w) (A1 : Value → Act)
    (hassign : ∀ l vx W (K : Act → World → Prop), K (A1 vx) W → assign.wpIn (Fence.wide.inRound l) 5 Try.prog (Exit.then K (fun _ _ _ => False)) { tmps := a.tmps.setIfInBounds pt vx, defers := [] } W)
    (hbody : ∀ l pre x vx W, (∃ rest, ws = pre ++ x :: rest) → I pre W → x.length = xs.length → W.ownsRow w.heap.size 3 1 vx xs.length (x.map (Value.int .i64)) →
      body.wpIn (Fence.wide.inRound l) 5 Try.prog (fun e _ W' => KeepX X (.slice none 0 0) W W' ∧ KeepsFrom w.heap.size W W' ∧ (match e with
        | .normal => I (pre ++ [x]) W'
        | .ret => Ix .ret (pre ++ [x]) W'
        | .exit id => Ix (.exit id) (pre ++ [x]) W'
        | .goto t => Ix (.goto t) (pre ++ [x]) W'
        | .panic _ => False
        | .outgrown => False)) (A1 vx) W)
    (hdone : ∀ D W, w.heap.size ≤ D → I ws W → W.heap[D]? = some (.deferred (some [])) → Q .normal { a with defers := { target := .collected D, args := #[] } :: a.defers } W)
    (hstop : ∀ D c p W, w.heap.size ≤ D → Ix c p W → W.heap[D]? = some (.deferred (some [])) → c.wpIn Fence.wide n Try.prog Q { a with defers := { target := .collected D, args := #[] } :: a.defers } W) :
    (Code.rangeFunc g #[pt] assign body).wpIn Fence.wide n Try.prog Q a w := by
  refine wpIn_rangeFunc fun fn _ => ?_
  obtain ⟨rcd, hr⟩ : ∃ rcd : LoopState → Option Code → Loop, rcd = fun st pe => { state := st, pending := pe, fn, tmps := a.tmps, params := #[pt], assign, body, defers := w.heap.size } := ⟨_, rfl⟩
  obtain ⟨W1, hW1⟩ : ∃ W1, (w.alloc (.deferred (some []))).alloc (.loop (rcd .ready none)) = W1 := ⟨_, rfl⟩
  have hsz : W1.heap.size = w.heap.size + 1 + 1 := by rw [← hW1]; simp
  have hL : W1.heap[w.heap.size + 1]? = some (.loop (rcd .ready none)) := by
    have h := World.alloc_heap_new (w.alloc (.deferred (some []))) (.loop (rcd .ready none))
    rw [World.size_alloc, hW1] at h
    exact h
  have hD : W1.heap[w.heap.size]? = some (.deferred (some [])) := by
    rw [← hW1]
    exact (Below.heap_alloc _ _ _ (by simp)).trans (World.alloc_heap_new w _)
  have hB1 : Below w.heap.size w W1 := by rw [← hW1]; exact below_two w _ _
  refine ⟨w.heap.size + 1, [{ target := .collected w.heap.size, args := #[] }], W1, { target := .fn (.func 79) #[.pointer (some ⟨Bo, 0, none⟩), .pointer (some ⟨Ba, 0, none⟩)], args := #[.func (.yield (w.heap.size + 1)) #[] #[]] }, W1, 79,
    #[.func (.yield (w.heap.size + 1)) #[] #[], .pointer (some ⟨Bo, 0, none⟩), .pointer (some ⟨Ba, 0, none⟩)], W1, ?_, ?_, fun _ _ => trivial, ?_, fun h => Bool.noConfusion h, ?_⟩
  · rw [← hW1, hr]
    exact run_enterLoop_outer _ _ _ _ _
  · simp only [resolve, hg]
    simp [go_sem]
  · simp [invoke, go_sem]
  refine callsIn_wide.2 ((ways1_any (l := w.heap.size + 1) (X := X) (ws := ws)
    (J := fun p W => I p W ∧ W.heap[w.heap.size + 1]? = some (.loop (rcd .ready none)) ∧ W.heap[w.heap.size]? = some (.deferred (some [])))
    (Jx := fun p W => ∃ c, Ix c p W ∧ W.heap[w.heap.size + 1]? = some (.loop (rcd .done (some c))) ∧ W.heap[w.heap.size]? = some (.deferred (some [])))
    R W1 ?_ ?_ (by omega) hBX (ho.below hB1 ho.lt) (ha.below hB1 ha.lt) hws ⟨hI _ _ _ h0 hB1, hL, hD⟩).mono ?_)
  · rintro p A B ⟨h1, h2, h3⟩ hb
    exact ⟨hI p A B h1 (hb.mono (by omega)), (hb.block _ (by omega)).trans h2, (hb.block _ (by omega)).trans h3⟩
  · rintro pre x vx W hw ⟨hi, hl, hd⟩ hx hov m
    have hlt : w.heap.size + 1 < W.heap.size := (Array.getElem?_eq_some_iff.1 hl).1
    have hy := run_yield (P := Try.prog) (args := #[vx]) hl (by rw [hr]; simp)
    have hbeg := run_beginRound (P := Try.prog) hl (by rw [hr])
    have hl2 : (W.putObj (w.heap.size + 1) (.loop { rcd .ready none with state := .busy })).heap[w.heap.size + 1]? = some (.loop { rcd .ready none with state := .busy }) := World.putObj_heap_same hlt
    have hd2 : (W.putObj (w.heap.size + 1) (.loop { rcd .ready none with state := .busy })).heap[w.heap.size]? = some (.deferred (some [])) := (World.putObj_heap_other (by omega)).trans hd
    have hov2 : (W.putObj (w.heap.size + 1) (.loop { rcd .ready none with state := .busy })).ownsRow w.heap.size 3 1 vx xs.length (x.map (Value.int .i64)) :=
      (own_mono hov (by omega)).kept (grownBy_putObj' W _ _) (by
        cases hv : vx.ownBlock with
        | none => exact .inl rfl
        | some q => exact .inr (fun e => by cases e; have := (hov.lt _ hv).1; omega))
    have h5 : RoundIn Fence.wide 5 Try.prog (w.heap.size + 1) (rcd .ready none).fn (((rcd .ready none).params.zip #[vx]).foldl (fun tmps (t, a) => tmps.setIfInBounds t a) (rcd .ready none).tmps) (rcd .ready none).assign (rcd .ready none).body W
        fun e W' => ∃ b : Bool, e = .returned (.bool b) ∧ KeepX X (.slice none 0 0) W W' ∧ (b = true → I (pre ++ [x]) W' ∧ W'.heap[w.heap.size + 1]? = some (.loop (rcd .ready none)) ∧ W'.heap[w.heap.size]? = some (.deferred (some []))) ∧
          (b = false → ∃ c, Ix c (pre ++ [x]) W' ∧ W'.heap[w.heap.size + 1]? = some (.loop (rcd .done (some c))) ∧ W'.heap[w.heap.size]? = some (.deferred (some []))) := by
      refine roundIn_of_wpIn trivial ?_
      rw [hr] at hbeg hl2 hd2 hov2 ⊢
      have hfo : (#[pt].zip #[vx]).foldl (fun tmps (t, a) => tmps.setIfInBounds t a) a.tmps = a.tmps.setIfInBounds pt vx := by simp
      dsimp only
      rw [hfo]
      refine hassign _ vx W _ ⟨_, hbeg, wpIn_mono (hbody _ pre x vx _ hw (hI _ _ _ hi (below_put _ (by omega))) hx hov2) ?_⟩
      rintro e a3 W3 ⟨hkx, hkf, hm⟩
      have hl3 := hkf.same _ _ (by omega) hl2 rfl
      have hd3 := hkf.same _ _ (Nat.le_refl _) hd2 rfl
      have hlt3 : w.heap.size + 1 < W3.heap.size := (Array.getElem?_eq_some_iff.1 hl3).1
      have fin : ∀ o, KeepX X (.slice none 0 0) W (W3.putObj (w.heap.size + 1) o) := fun o => ((keepX_put _ hl rfl).trans hkx).trans (keepX_put _ hl3 rfl)
      have dfr : ∀ o, (W3.putObj (w.heap.size + 1) o).heap[w.heap.size]? = some (.deferred (some [])) := fun o => (World.putObj_heap_other (by omega)).trans hd3
      cases e with
      | normal => exact ⟨_, _, run_endRound none hl3, true, rfl, fin _, fun _ => ⟨hI _ _ _ hm (below_put _ (by omega)), World.putObj_heap_same hlt3, dfr _⟩, fun h => Bool.noConfusion h⟩
      | ret => exact ⟨_, _, run_endRound (some .ret) hl3, false, rfl, fin _, fun h => Bool.noConfusion h, fun _ => ⟨.ret, hIx _ _ _ _ _ _ hm (by omega) hl3 rfl, World.putObj_heap_same hlt3, dfr _⟩⟩
      | exit id => exact ⟨_, _, run_endRound (some (.exit id)) hl3, false, rfl, fin _, fun h => Bool.noConfusion h, fun _ => ⟨.exit id, hIx _ _ _ _ _ _ hm (by omega) hl3 rfl, World.putObj_heap_same hlt3, dfr _⟩⟩
      | goto t => exact ⟨_, _, run_endRound (some (.goto t)) hl3, false, rfl, fin _, fun h => Bool.noConfusion h, fun _ => ⟨.goto t, hIx _ _ _ _ _ _ hm (by omega) hl3 rfl, World.putObj_heap_same hlt3, dfr _⟩⟩
      | panic ch => exact hm.elim
      | outgrown => exact hm.elim
    exact ⟨_, _, _, _, hy, h5.1, fun c cs _ => h5.2 c cs (room_wide _)⟩
  · rintro e W2 ⟨⟨v, rfl⟩, (⟨hi, hl, hd⟩ | ⟨p, c, hx, hl, hd⟩)⟩
    · have he := run_endLoop (P := Try.prog) hl (by rw [hr]; simp)
      refine ⟨none, _, by rw [he, hr], ?_⟩
      exact hdone w.heap.size _ (Nat.le_refl _) (hI _ _ _ hi (below_put _ (by omega))) ((World.putObj_heap_other (by omega)).trans hd)
    · have he := run_endLoop (P := Try.prog) hl (by rw [hr]; simp)
      refine ⟨some c, _, by rw [he, hr], ?_⟩
      exact hstop w.heap.size c p _ (Nat.le_refl _) (hIx _ _ _ _ _ _ hx (by omega) hl rfl) ((World.putObj_heap_other (by omega)).trans hd)
end
end Go.Proofs.Ytillmjnkhkcedaa

namespace Go.Proofs.Ytillmjnkhkcedaa
open Go.RowKit Go.Shelf
attribute [local go_sem] Oper.semAt_some

def waysN (xs : List Int) : Int := ifN (ordB xs) ((waysL xs).length : Int)

set_option maxRecDepth 100000 in
set_option maxHeartbeats 8000000 in
theorem implWays_in (ao : Option Addr) (ca : Nat) (xs : List Int) (w : World) (hp : ordB xs = true) (hx : Rd w ao xs) :
    CallsIn Fence.wide 7 Try.prog 28 #[.slice ao xs.length ca] w fun e w' => e = .returned (.tuple #[.int .i64 ((waysL xs).length : Int), .bool true]) ∧ Below w.heap.size w w' := by
  have R := ord_rl hp
  have hwl := ways_some hp
  have hmo : Try.prog.follows .mixedOrders = true := by kernel_rfl
  have H := Lib.hid (And.intro (orderFrom_yes ao ca xs w hp hx) (And.intro (fun w => ways_any R w) (And.intro R hwl)))
  clear R hwl hp hx
  refine callsIn_of_wp_marks Try.func28 rfl trivial ?_ rfl
  simp only [Try.ntmps28, List.size_toArray, List.length_cons, List.length_nil, Nat.reduceAdd, Nat.reduceSub, Array.replicate_succ, Array.replicate_zero, List.push_toArray, List.append_toArray, List.nil_append, List.cons_append]
  gi_wp2_with fail
  refine ⟨trivial, ?_⟩
  refine (callsIn_wide.2 H.out.1).mono ?_
  rintro e w1 ⟨rfl, hb⟩
  have x1 := (OrdAt.new w1 xs).alloc (.cells #[.int .i64 0] 3)
  have c1 := Boxed.new (w1.alloc (.cells #[.int .i64 xs.length, .int .i64 (rowAt xs 0), .int .i64 (rowAt xs 1), .int .i64 (rowAt xs 2), .int .i64 (rowAt xs 3)] 46)) 3 (.int .i64 0)
  rw [World.size_alloc] at c1
  have B1 := (hb.alloc hb.size (.cells #[.int .i64 xs.length, .int .i64 (rowAt xs 0), .int .i64 (rowAt xs 1), .int .i64 (rowAt xs 2), .int .i64 (rowAt xs 3)] 46)).alloc (by have := hb.size; simp; omega) (.cells #[.int .i64 0] 3)
  have p0 := x1.cell0
  have p1 := x1.cell1
  have p2 := x1.cell2
  have p3 := x1.cell3
  have p4 := x1.cell4
  have hw1 := hb.size
  clear hb
  gi_wp2_with fail
  refine ⟨trivial, ?_⟩
  refine (callsIn_wide.2 (H.out.2.1 _)).mono ?_
  rintro e w2 ⟨Ba, rfl, hBa, ho, ha, hb2⟩
  have c2 : Boxed w2 (w1.heap.size + 1) 3 (.int .i64 0) := (hb2.block _ (by simp)).trans c1
  have B2 := B1.trans (hb2.mono B1.size)
  clear x1 c1 B1 hb2 p0 p1 p2 p3 p4
  gi_wp2
  simp only [World.size_alloc] at hBa ho
  have hX := c2.lt
  have hs2 := B2.size
  have hall := H.out.2.2.2.2
  refine range_ways (X := w1.heap.size + 1) (Bo := w1.heap.size + 1 + 1) (Ba := Ba) (ws := waysL xs) H.out.2.2.1 rfl hX ⟨by omega, by omega⟩ ho ha rfl
    (fun p W => Boxed W (w1.heap.size + 1) 3 (.int .i64 (p.length : Int)) ∧ Below w.heap.size w W) (fun _ _ _ => False)
    (fun p A B h hb => ⟨(hb.block _ hX).trans h.1, h.2.trans (hb.mono hs2)⟩) (fun _ _ _ _ _ _ h _ _ _ => h) ⟨c2, B2⟩
    (fun vx => { tmps := #[.slice ao xs.length ca, undef, .int .i64 0, .bool false, .pointer (some ⟨w1.heap.size, 0, none⟩), .bool true, .pointer (some ⟨w1.heap.size + 1, 0, none⟩), .tuple #[relOf xs, .bool true], .slice ao xs.length ca, .tuple #[relOf xs, .bool true], relOf xs, .bool true, .bool true, .bool false, .agg #[.int .i64 xs.length, .int .i64 (rowAt xs 0), .int .i64 (rowAt xs 1), .int .i64 (rowAt xs 2), .int .i64 (rowAt xs 3)], .func (.func 79) #[] #[.pointer (some ⟨w1.heap.size + 1 + 1, 0, none⟩), .pointer (some ⟨Ba, 0, none⟩)], vx, undef, undef, undef], defers := [] }) ?assign ?body ?done ?stop
  case assign =>
    intro l vx W K hK
    gi_wp2
    exact hK
  case body =>
    rintro l pre x vx W ⟨rest, hr⟩ ⟨hbx, hB⟩ hxl hov
    have hpl : pre.length < 24 := by
      have := congrArg List.length hr
      simp at this
      omega
    have q0 := hbx.cell
    have f0 := hbx.frozen
    have HB := Lib.hid (And.intro hbx (And.intro hB (And.intro hX hs2)))
    have e1 : ((pre ++ [x]).length : Int) = (pre.length : Int) + 1 := by rw [List.length_append]; simp
    have HE := Lib.hid e1
    clear hbx hB hr hov e1
    gi_wp2
    refine ⟨keepX_set _ _ _ _, (KeepsOthers.setCell _ _ _).from _, HB.out.1.set _, HB.out.2.1.setCell (p := ⟨w1.heap.size + 1, 0, none⟩) (by show w.heap.size ≤ w1.heap.size + 1; omega) _⟩
  case done =>
    rintro D W hD ⟨hbx, hB⟩ hK
    have q0 := hbx.cell
    have HB := Lib.hid hB
    clear hbx hB ho ha c2 B2
    gi_wp2
    refine ⟨by simp, .inl ⟨_, _, rfl, run_takeDeferred hK, ?_⟩⟩
    exact ⟨.tuple #[.int .i64 ((waysL xs).length : Int), .bool true], by simp [results, Try.results28, go_sem], rfl, HB.out.trans (belowK_b (w := w) (Nat.le_refl _) W D _ _ (by omega) hK rfl rfl)⟩
  case stop =>
    rintro D c p W _ h _
    exact h.elim

theorem implOrderWays_any (ao : Option Addr) (ca : Nat) (xs : List Int) (w : World) (hl : xs.length ≤ 1048576) (hx : Rd w ao xs) :
    Calls Try.prog 28 #[.slice ao xs.length ca] w fun e w' => e = .returned (.tuple #[.int .i64 (waysN xs), .bool (ordB xs)]) ∧ Below w.heap.size w w' := by
  unfold waysN
  cases hp : ordB xs with
  | false =>
    have HC := Lib.hid (orderFrom_no ao ca xs w hl hp hx)
    clear hp hx
    go_enter Try.func28, Try.ntmps28
    go_wp2_with fail
    refine HC.out.mono ?_
    rintro e w1 ⟨rfl, hb⟩
    go_wp2
    go_ret2
    exact ⟨rfl, hb.alloc hb.size _⟩
  | true => exact callsIn_wide.1 (implWays_in ao ca xs w hp hx)

/-- the first way -/
def firstL (xs : List Int) : List Int := (waysL xs).headD []
theorem first_eq {xs x : List Int} {rest : List (List Int)} (h : waysL xs = x :: rest) : firstL xs = x := by unfold firstL; rw [h]; rfl

set_option maxRecDepth 100000 in
set_option maxHeartbeats 8000000 in
theorem implFirst_in (ao : Option Addr) (ca : Nat) (xs : List Int) (w : World) (hp : ordB xs = true) (hx : Rd w ao xs) :
    CallsIn Fence.wide 7 Try.prog 30 #[.slice ao xs.length ca] w (Gave w (ifR true (firstL xs)) true) := by
  have R := ord_rl hp
  have hwl := ways_some hp
  have hmo : Try.prog.follows .mixedOrders = true := by kernel_rfl
  have H := Lib.hid (And.intro (orderFrom_yes ao ca xs w hp hx) (And.intro (fun w => ways_any R w) (And.intro R hwl)))
  clear R hwl hp hx
  refine callsIn_of_wp_marks Try.func30 rfl trivial ?_ rfl
  simp only [Try.ntmps30, List.size_toArray, List.length_cons, List.length_nil, Nat.reduceAdd, Nat.reduceSub, Array.replicate_succ, Array.replicate_zero, List.push_toArray, List.append_toArray, List.nil_append, List.cons_append]
  gi_wp2_with fail
  refine ⟨trivial, ?_⟩
  refine (callsIn_wide.2 H.out.1).mono ?_
  rintro e w1 ⟨rfl, hb⟩
  have x1 := (OrdAt.new w1 xs).alloc (.cells #[.slice none 0 0] 22)
  have c1 := Boxed.new (w1.alloc (.cells #[.int .i64 xs.length, .int .i64 (rowAt xs 0), .int .i64 (rowAt xs 1), .int .i64 (rowAt xs 2), .int .i64 (rowAt xs 3)] 46)) 22 (.slice none 0 0)
  rw [World.size_alloc] at c1
  have B1 := (hb.alloc hb.size (.cells #[.int .i64 xs.length, .int .i64 (rowAt xs 0), .int .i64 (rowAt xs 1), .int .i64 (rowAt xs 2), .int .i64 (rowAt xs 3)] 46)).alloc (by have := hb.size; simp; omega) (.cells #[.slice none 0 0] 22)
  have p0 := x1.cell0
  have p1 := x1.cell1
  have p2 := x1.cell2
  have p3 := x1.cell3
  have p4 := x1.cell4
  have hw1 := hb.size
  clear hb
  gi_wp2_with fail
  refine ⟨trivial, ?_⟩
  refine (callsIn_wide.2 (H.out.2.1 _)).mono ?_
  rintro e w2 ⟨Ba, rfl, hBa, ho, ha, hb2⟩
  have c2 : Boxed w2 (w1.heap.size + 1) 22 (.slice none 0 0) := (hb2.block _ (by simp)).trans c1
  have B2 := B1.trans (hb2.mono B1.size)
  clear x1 c1 B1 hb2 p0 p1 p2 p3 p4
  gi_wp2
  simp only [World.size_alloc] at hBa ho
  have hX := c2.lt
  have hs2 := B2.size
  have hall := H.out.2.2.2
  refine range_ways (X := w1.heap.size + 1) (Bo := w1.heap.size + 1 + 1) (Ba := Ba) (ws := waysL xs) H.out.2.2.1 rfl hX ⟨by omega, by omega⟩ ho ha rfl
    (fun p W => p = [] ∧ Boxed W (w1.heap.size + 1) 22 (.slice none 0 0) ∧ Below w.heap.size w W)
    (fun c p W => c = .exit 0 ∧ ∃ x v rest, waysL xs = x :: rest ∧ Boxed W (w1.heap.size + 1) 22 v ∧ W.ownsRow w2.heap.size 3 1 v x.length (x.map (Value.int .i64)) ∧ Below w.heap.size w W)
    (fun p A B h hb => ⟨h.1, (hb.block _ hX).trans h.2.1, h.2.2.trans (hb.mono hs2)⟩)
    (fun c p A l o o' h hl ho hc => by
      obtain ⟨h1, x, v, rest, h2, h3, h4, h5⟩ := h
      exact ⟨h1, x, v, rest, h2, (World.putObj_heap_other (by omega)).trans h3, keep_row (keepX_put (X := w1.heap.size + 1) (v := .slice none 0 0) o' ho hc) h4 (fun q hq => by have := (h4.lt q hq).1; omega) (fun q _ => by simp [Value.ownBlock]), h5.trans (below_put o' (by omega))⟩)
    ⟨rfl, c2, B2⟩
    (fun vx => { tmps := #[.slice ao xs.length ca, undef, .slice none 0 0, .bool false, .pointer (some ⟨w1.heap.size, 0, none⟩), .bool true, .pointer (some ⟨w1.heap.size + 1, 0, none⟩), vx, .tuple #[relOf xs, .bool true], .slice ao xs.length ca, .tuple #[relOf xs, .bool true], relOf xs, .bool true, .bool true, .bool false, .agg #[.int .i64 xs.length, .int .i64 (rowAt xs 0), .int .i64 (rowAt xs 1), .int .i64 (rowAt xs 2), .int .i64 (rowAt xs 3)], .func (.func 79) #[] #[.pointer (some ⟨w1.heap.size + 1 + 1, 0, none⟩), .pointer (some ⟨Ba, 0, none⟩)], vx, undef, undef], defers := [] }) ?assign ?body ?done ?stop
  case assign =>
    intro l vx W K hK
    gi_wp2
    exact hK
  case body =>
    rintro l pre x vx W ⟨rest, hr⟩ ⟨rfl, hbx, hB⟩ hxl hov
    obtain ⟨vo, vc, rfl, _⟩ := row_rd (by rw [hxl]; exact hov)
    rw [hxl] at hov ⊢
    have q0 := hbx.cell
    have f0 := hbx.frozen
    have HB := Lib.hid (And.intro hbx (And.intro hB (And.intro hX (And.intro hs2 (And.intro hr (And.intro hxl hov))))))
    clear hbx hB hr hov
    gi_wp2
    have ho1 : W.ownsRow w2.heap.size 3 1 (.slice vo xs.length vc) x.length (x.map (Value.int .i64)) := by rw [hxl]; exact HB.out.2.2.2.2.2.2
    exact ⟨keepX_set _ _ _ _, (KeepsOthers.setCell _ _ _).from _, x, ⟨rest, HB.out.2.2.2.2.1⟩, _, HB.out.1.set _, keep_row (keepX_set (w1.heap.size + 1) (.slice none 0 0) W _) ho1 (fun q hq => by have := (ho1.lt q hq).1; omega) (fun q _ => by simp [Value.ownBlock]),
      HB.out.2.1.setCell (p := ⟨w1.heap.size + 1, 0, none⟩) (by show w.heap.size ≤ w1.heap.size + 1; omega) _⟩
  case done =>
    rintro D W hD ⟨h, _⟩ hK
    have := hall.1
    rw [h] at this
    exact absurd this (by decide)
  case stop =>
    rintro D c p W hD ⟨rfl, x, v, rest, h2, h3, h4, h5⟩ hK
    have q0 := h3.cell
    have HB := Lib.hid (And.intro h2 (And.intro h4 (And.intro h5 hs2)))
    clear h3 h4 h5 ho ha c2 B2
    gi_wp2
    refine ⟨by simp, .inl ⟨_, _, rfl, run_takeDeferred hK, ?_⟩⟩
    have h4 := HB.out.2.1
    have hfe := first_eq HB.out.1
    have o5 := own_mono (keep_row (keepX_put (X := w1.heap.size + 1) (v := .slice none 0 0) (.deferred none) hK rfl) h4 (fun q hq => by have := (h4.lt q hq).1; omega) (fun q _ => by simp [Value.ownBlock])) HB.out.2.2.2
    exact ⟨.tuple #[v, .bool true], by simp [results, Try.results30, go_sem], v, rfl, by rw [hfe]; exact o5, HB.out.2.2.1.trans (belowK_b (w := w) (Nat.le_refl _) W D _ _ (by omega) hK rfl rfl)⟩

theorem implOrderFirst_any (ao : Option Addr) (ca : Nat) (xs : List Int) (w : World) (hl : xs.length ≤ 1048576) (hx : Rd w ao xs) :
    Calls Try.prog 30 #[.slice ao xs.length ca] w (Gave w (ifR (ordB xs) (firstL xs)) (ordB xs)) := by
  cases hp : ordB xs with
  | false =>
    have HC := Lib.hid (orderFrom_no ao ca xs w hl hp hx)
    clear hp hx
    go_enter Try.func30, Try.ntmps30
    go_wp2_with fail
    refine HC.out.mono ?_
    rintro e w1 ⟨rfl, hb⟩
    go_wp2
    go_ret2
    exact ⟨.slice none 0 0, rfl, World.ownsRow_nil _ _ _ _, hb.alloc hb.size _⟩
  | true => exact callsIn_wide.1 (implFirst_in ao ca xs w hp hx)
end Go.Proofs.Ytillmjnkhkcedaa
