/-
  The points that a map leads to: KindMap of both.
-/
import Derived.Test.YtpbkgdohfnjjpaaHH
import Derived.Test.YtpbkgdohfnjjpaaW
namespace Go.Proofs.Ytpbkgdohfnjjpaa
open Go.RowKit Go.Maps Go.Shelf
attribute [local go_sem] Oper.semAt_some

/-- the point of a set of one point -/
def lowI (x : Int) : Nat := if x = 1 then 0 else if x = 2 then 1 else if x = 4 then 2 else 3
def mapL (xs : List Int) : List Int := xs.map fun x => (lowI x : Int)
def fdT : ByteArray := ⟨#[102, 100]⟩
def isMapB (xs : List Int) : Bool := relIn xs && allK xs fdT
theorem fd_text : textTo fdT risat fdT.size = true := by decide +kernel
theorem fd_all {xs : List Int} : allK xs fdT = (kindF xs && kindD xs) := by
  unfold allK allTo
  show (List.range 2).all (fun i => kindB (byt fdT i) xs) = _
  rw [show List.range 2 = [0, 1] from rfl, List.all_cons, List.all_cons, List.all_nil, Bool.and_true]
  rfl
theorem mapL_len (xs : List Int) : (mapL xs).length = xs.length := List.length_map _
/-- rows of one point -/
theorem one_row : ∀ n : Fin 5, ∀ z : Fin 16, z.val < 2 ^ n.val → (∀ j k : Fin n.val, hasB (z.val : Int) j.val = true → hasB (z.val : Int) k.val = true → k = j) → (∃ j : Fin n.val, hasB (z.val : Int) j.val = true) → (z.val : Int) = pt (lowI (z.val : Int)) ∧ lowI (z.val : Int) < n.val := by decide +kernel
theorem map_row {xs : List Int} (h : isMapB xs = true) (i : Nat) (hi : i < xs.length) : rowAt xs i = pt (lowI (rowAt xs i)) ∧ lowI (rowAt xs i) < xs.length := by
  unfold isMapB at h
  rw [Bool.and_eq_true, fd_all, Bool.and_eq_true] at h
  obtain ⟨hp, hf, hd⟩ := h
  have R := Rl.of hp
  obtain ⟨y, hy, hy2⟩ := R.row i
  rw [← isF R] at hf
  rw [← isD R] at hd
  have a := (most_iff R).1 hf i
  have b := (least_iff R).1 hd i hi
  rw [hy]
  refine one_row ⟨xs.length, by have := R.four; omega⟩ y hy2 (fun j k h1 h2 => ?_) ?_
  · exact Fin.ext (a j.val k.val hi j.isLt k.isLt (by unfold hB; rw [hy]; exact h1) (by unfold hB; rw [hy]; exact h2))
  · obtain ⟨j, hj, hb⟩ := b
    unfold hB at hb
    rw [hy] at hb
    exact ⟨⟨j, hj⟩, hb⟩
theorem map_take (xs : List Int) (k : Nat) (x : Int) (h : xs[k]? = some x) : (mapL xs).take (k + 1) = (mapL xs).take k ++ [(lowI x : Int)] := by
  unfold mapL
  rw [← List.map_take, ← List.map_take, List.take_add_one, h]
  simp

set_option maxHeartbeats 4000000 in
theorem specKindMap_any (ao : Option Addr) (ca : Nat) (xs : List Int) (w : World) (hl : xs.length ≤ 1048576) (hx : Rd w ao xs) :
    Calls Try.prog 34 #[.slice ao xs.length ca] w (Gave w (ifR (isMapB xs) (mapL xs)) (isMapB xs)) := by
  have B0 := below_one w (.cells #[] 3)
  have hx0 := hx.below B0
  have h1 := specRelIn_any ao ca xs (w.alloc (.cells #[] 3)) hl hx0
  have oX := row_lit0 w
  cases hp : relIn xs with
  | false =>
    rw [hp] at h1
    have hno : isMapB xs = false := by unfold isMapB; rw [hp]; rfl
    have H1 := Lib.hid h1
    have HO := Lib.hid (And.intro oX (And.intro B0 hno))
    clear h1 hp oX B0 hx0 hno
    go_enter Try.func34, Try.ntmps34
    go_wp2_with (go_at_call 52; refine H1.out.mono ?_; rintro e w1 ⟨rfl, hd⟩)
    go_ret2
    exact ⟨_, by rw [HO.out.2.2]; rfl, by rw [HO.out.2.2]; exact hd.row HO.out.1, HO.out.2.1.trans (hd.below _)⟩
  | true =>
    rw [hp] at h1
    have HR := Lib.hid (Rl.of hp)
    have h4 := HR.out.four
    have HP := Lib.hid hp
    have H1 := Lib.hid h1
    have HO := Lib.hid (And.intro oX B0)
    have HX0 := Lib.hid hx0
    obtain ⟨i0, hi, hz0, hz1, hz2⟩ := info_parts Try.info3
    clear h1 hp oX B0 hx0
    cases hq : allK xs fdT with
    | false =>
      have hno : isMapB xs = false := by unfold isMapB; rw [hq, Bool.and_false]
      have HQ := Lib.hid (And.intro hq hno)
      clear hq hno
      go_enter Try.func34, Try.ntmps34
      go_wp2_with fail
      refine H1.out.mono ?_
      rintro e w1 ⟨rfl, hd⟩
      go_wp2_with fail
      refine (l3All_any HR.out fdT ao ca w1 (by decide) (fun k hk => letters_of fd_text k hk) (hd.rd HX0.out)).mono ?_
      rw [HQ.out.1]
      rintro e w2 ⟨rfl, hb2⟩
      go_wp2
      go_ret2
      have o1 := hd.row HO.out.1
      have o2 := own_keep o1 hb2 (fun q hq => (o1.lt q hq).2)
      have B1 := HO.out.2.trans (hd.below _)
      exact ⟨_, by rw [HQ.out.2]; rfl, by rw [HQ.out.2]; exact o2, B1.trans (hb2.mono B1.size)⟩
    | true =>
      have hyes : isMapB xs = true := by unfold isMapB; rw [hq, HP.out]; rfl
      have HQ := Lib.hid (And.intro hq hyes)
      clear hq hyes
      go_enter Try.func34, Try.ntmps34
      go_wp2_with fail
      refine H1.out.mono ?_
      rintro e w1 ⟨rfl, hd⟩
      go_wp2_with fail
      refine (l3All_any HR.out fdT ao ca w1 (by decide) (fun k hk => letters_of fd_text k hk) (hd.rd HX0.out)).mono ?_
      rw [HQ.out.1]
      rintro e w2 ⟨rfl, hb2⟩
      have o1 := hd.row HO.out.1
      have o2 := own_keep o1 hb2 (fun q hq => (o1.lt q hq).2)
      have B1 := HO.out.2.trans (hd.below _)
      have B2 := B1.trans (hb2.mono B1.size)
      clear o1 B1 hb2 hd
      go_wp2
      go_loopw [5, 4, 6] (fun i v _ wr => ∃ k : Nat, k ≤ xs.length ∧ i = .int .i64 k ∧ wr.ownsRow w.heap.size 3 1 v k (((mapL xs).take k).map (Value.int .i64)) ∧ Below w.heap.size w wr)
        (fun i _ _ _ => xs.length - (intOf i).toNat)
      case atStart => exact ⟨0, Nat.zero_le _, rfl, o2, B2⟩
      case round =>
        clear o2 B2
        obtain ⟨k, hk, rfl, ho, hB⟩ := hrel
        obtain ⟨wo, rfl⟩ : ∃ wo : World, wo = wr := ⟨_, rfl⟩
        by_cases hlt : k < xs.length
        · obtain ⟨b, off, x, hxk, rfl, hbl, hc1⟩ := (hx.below hB).get k hlt
          have hmr := map_row HQ.out.2 k hlt
          have hxe : x = rowAt xs k := by
            rw [rowAt_get hlt] at hxk
            exact (Option.some.inj hxk).symm
          rw [← hxe] at hmr
          have htk := map_take xs k x hxk
          obtain ⟨j, hj⟩ : ∃ j, lowI x = j := ⟨_, rfl⟩
          rw [hj] at hmr htk
          have hj4 : j < 4 := by omega
          have hi1 : ((k : Nat) : Int) < (xs.length : Int) := by omega
          have HM := Lib.hid (And.intro hmr.1 htk)
          clear hmr hxe htk hj hxk
          go_wp2
          go_loopw [6] (fun m wr => ∃ t : Nat, t ≤ j ∧ m = .int .i64 t ∧ wo = wr)
            (fun m _ => j - (intOf m).toNat)
          case atStart => exact ⟨0, Nat.zero_le _, rfl, by first | rfl | trivial⟩
          case round =>
            obtain ⟨t, ht, rfl, rfl⟩ := hrel
            by_cases htj : t < j
            · have hne : (x / 2 ^ t != 1) = true := by
                rw [HM.out.1]
                have key : ∀ j : Fin 4, ∀ t : Fin j.val, ((pt j.val) / 2 ^ t.val != 1) = true := by decide +kernel
                exact key ⟨j, hj4⟩ ⟨t, htj⟩
              go_wp2
              go_roundw
              case rel => exact ⟨t + 1, by omega, by go_num, by first | rfl | trivial⟩
              case measure => simp [intOf]; omega
            · obtain rfl : t = j := by omega
              have hne : (x / 2 ^ t != 1) = false := by
                rw [HM.out.1]
                have key : ∀ j : Fin 4, ((pt j.val) / 2 ^ j.val != 1) = false := by decide +kernel
                exact key ⟨t, hj4⟩
              go_wp2_with (at_builtin; refine wpList_append_own _ rfl (.tmp 32) (.tmp 34) 23 rfl w.heap.size 3 i0 (.int .i64 0) 1 8 Try.underlying23 hi hz0 hz1 hz2 rfl (by decide) _ _ _ rfl (ho.alloc _) ⟨wo.heap.size, 0, none⟩ 1 1 [_] rfl rfl (cell_one_new _ _ _) (by simp [Value.oneCell']) (by unfold maxLen; omega) (by omega) (by have := hB.size; simp; omega) ?_)
              intro v' w4 hown' hgrow _
              have hb' := own_step' ho hB hB.size _ hgrow
              clear ho hB hgrow hc1
              go_wp2
              go_roundw
              case rel =>
                refine ⟨k + 1, by omega, by go_num, ?_, hb'⟩
                rw [HM.out.2, List.map_append]
                rw [← List.map_take] at hown'
                exact hown'
              case measure => simp [intOf]; omega
        · obtain rfl : k = xs.length := by omega
          rw [List.take_of_length_le (by rw [mapL_len]; exact Nat.le_refl _)] at ho
          go_wp2
          go_ret2
          exact ⟨_, by rw [HQ.out.2]; rfl, by rw [HQ.out.2]; rw [show ifR true (mapL xs) = mapL xs from rfl, mapL_len]; exact ho, hB⟩

/-! the program's -/
theorem boxed_of {W W' : World} {B : Nat} {t : TypeId} {v : Value} (h : Boxed W B t v) (e : W'.heap[B]? = W.heap[B]?) : Boxed W' B t v := e.trans h
def mapAcc (n : Nat) (pre : List (Fin n × Fin n)) : List Int := pre.foldl (fun ps p => ps.set p.1.val (p.2.val : Int)) (List.replicate n 0)
theorem mapAcc_snoc (n : Nat) (pre : List (Fin n × Fin n)) (p : Fin n × Fin n) : mapAcc n (pre ++ [p]) = (mapAcc n pre).set p.1.val (p.2.val : Int) := by
  unfold mapAcc
  rw [List.foldl_append]
  rfl
theorem mapAcc_len (n : Nat) (pre : List (Fin n × Fin n)) : (mapAcc n pre).length = n := by
  have h : ∀ (l : List (Fin n × Fin n)) (zs : List Int), (l.foldl (fun ps p => ps.set p.1.val (p.2.val : Int)) zs).length = zs.length := by
    intro l
    induction l with
    | nil => intro zs; rfl
    | cons p r ih => intro zs; rw [List.foldl_cons, ih, List.length_set]
  unfold mapAcc
  rw [h]
  simp
theorem mapAcc_at (n : Nat) (f : Nat → Nat) (pre : List (Fin n × Fin n)) (hf : ∀ p, p ∈ pre → p.2.val = f p.1.val) : (mapAcc n pre).length = n ∧ ∀ i : Nat, (∃ p, p ∈ pre ∧ p.1.val = i) → (mapAcc n pre)[i]? = some ((f i : Nat) : Int) := by
  have key : ∀ (l : List (Fin n × Fin n)) (zs : List Int), zs.length = n → (∀ p, p ∈ l → p.2.val = f p.1.val) →
      (l.foldl (fun ps p => ps.set p.1.val (p.2.val : Int)) zs).length = n ∧
      ∀ i : Nat, ((∃ p, p ∈ l ∧ p.1.val = i) ∨ zs[i]? = some ((f i : Nat) : Int)) → (l.foldl (fun ps p => ps.set p.1.val (p.2.val : Int)) zs)[i]? = some ((f i : Nat) : Int) := by
    intro l
    induction l with
    | nil =>
      intro zs hz _
      refine ⟨hz, fun i h => ?_⟩
      rcases h with ⟨p, hp, _⟩ | h
      · cases hp
      · exact h
    | cons q r ih =>
      intro zs hz hq
      rw [List.foldl_cons]
      obtain ⟨a, b⟩ := ih (zs.set q.1.val (q.2.val : Int)) (by rw [List.length_set, hz]) (fun p hp => hq p (List.mem_cons_of_mem _ hp))
      refine ⟨a, fun i h => b i ?_⟩
      by_cases hi : q.1.val = i
      · right
        subst hi
        rw [List.getElem?_set, if_pos rfl, if_pos (by rw [hz]; exact q.1.isLt), hq q List.mem_cons_self]
      · rcases h with ⟨p, hp, e⟩ | h
        · rcases List.mem_cons.1 hp with rfl | hp
          · exact absurd e hi
          · exact .inl ⟨p, hp, e⟩
        · right
          rw [List.getElem?_set_ne hi]
          exact h
  obtain ⟨a, b⟩ := key pre (List.replicate n 0) List.length_replicate hf
  exact ⟨a, fun i h => b i (.inl h)⟩
theorem mapAcc_eq {xs : List Int} (h : isMapB xs = true) : mapAcc xs.length (pairsOf xs) = mapL xs := by
  have hp : relIn xs = true := by unfold isMapB at h; rw [Bool.and_eq_true] at h; exact h.1
  have R := Rl.of hp
  have hf : ∀ p, p ∈ pairsOf xs → p.2.val = lowI (rowAt xs p.1.val) := by
    intro p hpp
    have hb := (mem_pairs R.four p).1 hpp
    obtain ⟨h1, h2⟩ := map_row h p.1.val p.1.isLt
    unfold hB at hb
    rw [h1] at hb
    have e := b_pt ⟨lowI (rowAt xs p.1.val), by have := R.four; omega⟩ ⟨p.2.val, by have := R.four; have := p.2.isLt; omega⟩
    dsimp only at e
    rw [e] at hb
    exact of_decide_eq_true hb
  obtain ⟨a, b⟩ := mapAcc_at xs.length (fun i => lowI (rowAt xs i)) (pairsOf xs) hf
  apply List.ext_getElem?
  intro i
  by_cases hi : i < xs.length
  · obtain ⟨h1, h2⟩ := map_row h i hi
    have hmem : ((⟨i, hi⟩, ⟨lowI (rowAt xs i), h2⟩) : Fin xs.length × Fin xs.length) ∈ pairsOf xs := by
      rw [mem_pairs R.four]
      unfold hB
      show hasB (rowAt xs i) (lowI (rowAt xs i)) = true
      have h4 := R.four
      have e := b_pt ⟨lowI (rowAt xs i), by omega⟩ ⟨lowI (rowAt xs i), by omega⟩
      dsimp only at e
      rw [← h1] at e
      rw [e]
      exact decide_eq_true rfl
    rw [b i ⟨_, hmem, rfl⟩]
    unfold mapL
    rw [List.getElem?_map, rowAt_get hi]
    rfl
  · rw [List.getElem?_eq_none (by omega), List.getElem?_eq_none (by rw [mapL_len]; omega)]

set_option maxHeartbeats 4000000 in
theorem implKindMap_no (ao : Option Addr) (ca : Nat) (xs : List Int) (w : World) (hl : xs.length ≤ 1048576) (hx : Rd w ao xs) (hno : isMapB xs = false) :
    Calls Try.prog 33 #[.slice ao xs.length ca] w (Gave w [] false) := by
  unfold isMapB at hno
  cases hp : relIn xs with
  | false =>
    have HP := Lib.hid hp
    clear hp hno
    go_enter Try.func33, Try.ntmps33
    go_wp2_with (go_at_call 50; refine (relationFrom_no _ _ _ _ hl HP.out hx).mono ?_; rintro e w1 ⟨rfl, hb⟩)
    go_ret2
    exact ⟨.slice none 0 0, rfl, World.ownsRow_nil _ _ _ _, hb.alloc hb.size _⟩
  | true =>
    have hq : allK xs fdT = false := by rw [hp] at hno; simpa using hno
    have hof := fun w => isOf_any (Rl.of hp) fdT w (by decide)
    rw [hq, Bool.and_false] at hof
    have HOF := Lib.hid hof
    have HP := Lib.hid hp
    have h4 := (relIn_len hp).2
    clear hp hno hq hof
    go_enter Try.func33, Try.ntmps33
    go_wp2_with fail
    refine (relationFrom_yes _ _ _ _ HP.out hx).mono ?_
    rintro e w1 ⟨rfl, hb⟩
    have x1 := RelAt.new w1 xs
    have B1 := hb.alloc hb.size (.cells #[.int .i64 xs.length, .int .i64 (rowAt xs 0), .int .i64 (rowAt xs 1), .int .i64 (rowAt xs 2), .int .i64 (rowAt xs 3)] 48)
    have p0 := x1.cell0
    have p1 := x1.cell1
    have p2 := x1.cell2
    have p3 := x1.cell3
    have p4 := x1.cell4
    clear x1 hb hx
    go_wp2_with (go_at_call 66; refine (HOF.out _).mono ?_; rintro e w2 ⟨rfl, hb2⟩)
    go_ret2
    exact ⟨.slice none 0 0, rfl, World.ownsRow_nil _ _ _ _, B1.trans (hb2.mono B1.size)⟩

set_option maxRecDepth 100000 in
set_option maxHeartbeats 8000000 in
theorem implMap_in (ao : Option Addr) (ca : Nat) (xs : List Int) (w : World) (hyes : isMapB xs = true) (hx : Rd w ao xs) :
    CallsIn Fence.wide 6 Try.prog 33 #[.slice ao xs.length ca] w (Gave w (mapL xs) true) := by
  obtain ⟨i0, hi, hz0, hz1, hz2⟩ := info_parts Try.info3
  have hp : relIn xs = true := by unfold isMapB at hyes; rw [Bool.and_eq_true] at hyes; exact hyes.1
  have hq : allK xs fdT = true := by unfold isMapB at hyes; rw [Bool.and_eq_true] at hyes; exact hyes.2
  obtain ⟨h1, h4⟩ := relIn_len hp
  have hof := fun w => isOf_any (Rl.of hp) fdT w (by decide)
  rw [fd_text, hq, Bool.true_and] at hof
  have HOF := Lib.hid hof
  have HP := Lib.hid hp
  have HM := Lib.hid (mapAcc_eq hyes)
  clear hp hq hof hyes
  refine callsIn_of_wp_marks Try.func33 rfl trivial ?_ rfl
  simp only [Try.ntmps33, List.size_toArray, List.length_cons, List.length_nil, Nat.reduceAdd, Nat.reduceSub, Array.replicate_succ, Array.replicate_zero, List.push_toArray, List.append_toArray, List.nil_append, List.cons_append]
  gi_wp2_with fail
  refine ⟨trivial, ?_⟩
  refine (callsIn_wide.2 (relationFrom_yes _ _ _ _ HP.out hx)).mono ?_
  rintro e w1 ⟨rfl, hb⟩
  have x1 := RelAt.new w1 xs
  have B1 := hb.alloc hb.size (.cells #[.int .i64 xs.length, .int .i64 (rowAt xs 0), .int .i64 (rowAt xs 1), .int .i64 (rowAt xs 2), .int .i64 (rowAt xs 3)] 48)
  have p0 := x1.cell0
  have p1 := x1.cell1
  have p2 := x1.cell2
  have p3 := x1.cell3
  have p4 := x1.cell4
  gi_wp2_with fail
  refine ⟨trivial, ?_⟩
  refine (callsIn_wide.2 (HOF.out _)).mono ?_
  rintro e w2 ⟨rfl, hb2⟩
  have x2 := x1.below hb2 x1.lt
  have B2 := B1.trans (hb2.mono B1.size)
  obtain ⟨w3, hmk, o3, g3⟩ := run_make_full (P := Try.prog) w2 w.heap.size 23 3 i0 (.int .i64 0) 1 Try.underlying23 hi hz0 hz1 .i64 .i64 xs.length (by rw [hz2]; omega) (by unfold maxLen; omega) B2.size
  have y0 := x2.cell0
  have x3 : RelAt w3 w1.heap.size xs := (g3.block _ x2.lt (by simp)).trans x2
  have x4 := x3.alloc (.cells #[(.slice (some ⟨w2.heap.size, 0, none⟩) xs.length xs.length)] 23)
  have B3 := B2.grown g3 B2.size (by simp)
  have hg2 : w2.heap.size < w3.heap.size := (o3.lt _ rfl).2
  have hw2 : w.heap.size ≤ w2.heap.size := B2.size
  clear p0 p1 p2 p3 p4 x1 B1 hb hb2 x2 x3 g3
  have p0 := x4.cell0
  have p1 := x4.cell1
  have p2 := x4.cell2
  have p3 := x4.cell3
  have p4 := x4.cell4
  gi_wp2_with fail
  refine ⟨trivial, ?_⟩
  refine (callsIn_wide.2 (pairs_any xs _)).mono ?_
  rintro e w4 ⟨rfl, rfl⟩
  have b1 := (Boxed.new w3 23 (.slice (some ⟨w2.heap.size, 0, none⟩) xs.length xs.length)).alloc (.cells #[.int .i64 xs.length, .int .i64 (rowAt xs 0), .int .i64 (rowAt xs 1), .int .i64 (rowAt xs 2), .int .i64 (rowAt xs 3)] 48)
  have r1 := (o3.alloc (.cells #[(.slice (some ⟨w2.heap.size, 0, none⟩) xs.length xs.length)] 23)).alloc (.cells #[.int .i64 xs.length, .int .i64 (rowAt xs 0), .int .i64 (rowAt xs 1), .int .i64 (rowAt xs 2), .int .i64 (rowAt xs 3)] 48)
  rw [show (Value.int .i64 0).cells = #[Value.int .i64 0] from rfl, toList_madeCells_one] at r1
  have i1 := RelAt.new (w3.alloc (.cells #[(.slice (some ⟨w2.heap.size, 0, none⟩) xs.length xs.length)] 23)) xs
  rw [World.size_alloc] at i1
  have B0 : Below w.heap.size w ((w3.alloc (.cells #[(.slice (some ⟨w2.heap.size, 0, none⟩) xs.length xs.length)] 23)).alloc (.cells #[.int .i64 xs.length, .int .i64 (rowAt xs 0), .int .i64 (rowAt xs 1), .int .i64 (rowAt xs 2), .int .i64 (rowAt xs 3)] 48)) := (B3.alloc B3.size _).alloc (by have := B3.size; simp; omega) _
  have sz : w3.heap.size + 1 + 1 = ((w3.alloc (.cells #[(.slice (some ⟨w2.heap.size, 0, none⟩) xs.length xs.length)] 23)).alloc (.cells #[.int .i64 xs.length, .int .i64 (rowAt xs 0), .int .i64 (rowAt xs 1), .int .i64 (rowAt xs 2), .int .i64 (rowAt xs 3)] 48)).heap.size := by simp
  clear p0 p1 p2 p3 p4 x4 B3 hmk y0 o3
  gi_wp2
  obtain ⟨W0, hW0⟩ : ∃ W0, (w3.alloc (.cells #[(.slice (some ⟨w2.heap.size, 0, none⟩) xs.length xs.length)] 23)).alloc (.cells #[.int .i64 xs.length, .int .i64 (rowAt xs 0), .int .i64 (rowAt xs 1), .int .i64 (rowAt xs 2), .int .i64 (rowAt xs 3)] 48) = W0 := ⟨_, rfl⟩
  rw [hW0] at b1 r1 i1 B0 sz ⊢
  clear hW0
  refine wpIn_rangeFunc_ownF (w0 := W0) rfl (by omega) (gf := 79) (lb := #[.pointer (some ⟨w3.heap.size + 1, 0, none⟩)]) rfl trivial (enters_of Try.func79 (by kernel_rfl) rfl)
    (pairs_stops 5 (by omega) (w3.heap.size + 1) xs h1 h4 W0 i1) KeepB.t (KeepB.b (by omega)) (Below.refl _ _) (fun _ => rfl)
    (fun pre W => ((∃ v, Boxed W w3.heap.size 23 v ∧ W.ownsRow w.heap.size 3 1 v xs.length ((mapAcc xs.length pre).map (Value.int .i64)) ∧ v = (.slice (some ⟨w2.heap.size, 0, none⟩) xs.length xs.length)) ∧ RelAt W (w3.heap.size + 1) xs) ∧ Below w.heap.size w W)
    (fun _ _ _ => False)
    (OwnFrom.and (Own.from (fun s A B row hs hg hr => ⟨holdsRow_own w.heap.size w3.heap.size 23 3 1 (fun _ => xs.length) (fun pre => (mapAcc xs.length pre).map (Value.int .i64)) (fun _ v => v = (.slice (some ⟨w2.heap.size, 0, none⟩) xs.length xs.length)) s A B row hs.1 hg hr, relAt_own _ (fun _ => xs) s A B row hs.2 hg hr⟩) _) (ownFrom_below (Nat.le_refl _) (by omega)))
    (fun _ _ _ _ _ hs _ _ => hs)
    ⟨⟨⟨_, b1, by simpa [mapAcc] using r1, rfl⟩, i1⟩, B0⟩
    (fun x => { tmps := #[.slice ao xs.length ca, undef, .slice none 0 0, .bool false, .pointer (some ⟨w1.heap.size, 0, none⟩), .bool true, .pointer (some ⟨w3.heap.size, 0, none⟩), .int .i64 (x.1.val : Int), .int .i64 (x.2.val : Int), .tuple #[relOf xs, .bool true], .slice ao xs.length ca, .tuple #[relOf xs, .bool true], relOf xs, .bool true, .bool true, .bool false, .bool false, relOf xs, .bool true, .bool false, .bool false, .pointer (some ⟨w1.heap.size, 0, none⟩), .int .i64 xs.length, .slice (some ⟨w2.heap.size, 0, none⟩) xs.length xs.length, relOf xs, .func (.func 79) #[] #[.pointer (some ⟨w3.heap.size + 1, 0, none⟩)], .int .i64 (x.1.val : Int), .int .i64 (x.2.val : Int), undef, undef, undef, undef, undef], defers := [] }) ?assign ?body ?done ?stop
  case assign =>
    intro l x W K hK
    gi_wp2
    exact hK
  case body =>
    rintro l pre x W ⟨⟨⟨v, hv, ho, rfl⟩, hi3⟩, hB⟩ hlen
    have hx1 := x.1.isLt
    have pc := hv.cell
    have hf := ho.frozenAt x.1.val
    have hc := ho.cellAt x.1.val (by omega)
    rw [List.getElem?_map, rowAt_get (by rw [mapAcc_len]; exact hx1)] at hc
    have hj1 : ((x.1.val : Nat) : Int) < (xs.length : Int) := by omega
    have hst := (ho.stored x.1.val (.int .i64 (x.2.val : Int))).1
    rw [← List.map_set, ← mapAcc_snoc] at hst
    have HST := Lib.hid hst
    clear hst
    gi_wp2
    exact ⟨KeepsOthers.setCell _ _ _, Below.heap_setCell W ⟨w2.heap.size, x.1.val, none⟩ _ (w3.heap.size + 1) (by simp; omega), ⟨⟨_, boxed_of hv (Below.heap_setCell W ⟨w2.heap.size, x.1.val, none⟩ _ w3.heap.size (by simp; omega)), HST.out, rfl⟩, hi3.other (p := ⟨w2.heap.size, x.1.val, none⟩) (by simp; omega) _⟩, hB.setCell (p := ⟨w2.heap.size, x.1.val, none⟩) hw2 _⟩
  case done =>
    rintro D ys W hD rfl ⟨⟨⟨v, hv, ho, rfl⟩, hi3⟩, hB⟩ hK
    have pc := hv.cell
    rw [HM.out] at ho
    have HO := Lib.hid ho
    clear ho
    gi_wp2
    refine ⟨by simp, .inl ⟨_, _, rfl, run_takeDeferred hK, ?_⟩⟩
    have ho2 := ownsRow_putObj HO.out (.deferred none) hK rfl
    exact ⟨.tuple #[.slice (some ⟨w2.heap.size, 0, none⟩) xs.length xs.length, .bool true], by simp [results, Try.results33, go_sem], _, rfl, by rw [mapL_len]; exact ho2, hB.trans (belowK_b (w := w) (Nat.le_refl _) W D _ _ (by omega) hK rfl rfl)⟩
  case stop =>
    rintro D c pre W _ _ h _
    exact h.elim
theorem implKindMap_any (ao : Option Addr) (ca : Nat) (xs : List Int) (w : World) (hl : xs.length ≤ 1048576) (hx : Rd w ao xs) :
    Calls Try.prog 33 #[.slice ao xs.length ca] w (Gave w (ifR (isMapB xs) (mapL xs)) (isMapB xs)) := by
  cases hp : isMapB xs with
  | false => exact implKindMap_no ao ca xs w hl hx hp
  | true => exact callsIn_wide.1 (implMap_in ao ca xs w hp hx)
end Go.Proofs.Ytpbkgdohfnjjpaa
