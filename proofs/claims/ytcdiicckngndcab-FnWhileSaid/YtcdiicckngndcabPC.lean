/-
  The program's before: programs gone through from the last one on, by slices.Backward and a type switch; for relations of at most 4 points.
-/
import Derived.Test.YtcdiicckngndcabPB
namespace Go.Proofs.Ytcdiicckngndcab
open Go.RowKit Go.Shelf
attribute [local go_sem] Oper.semAt_some

theorem ta_tt (v : Value) (w : World) : (Instr.typeAssert (.iface 97 v) 88 97 true).run Try.prog w = .ok (.tuple #[v, .bool true]) w := by kernel_rfl
theorem ta_st (v : Value) (w : World) : (Instr.typeAssert (.iface 86 v) 88 97 true).run Try.prog w = .ok (.tuple #[.agg #[.int .i64 0], .bool false]) w := by kernel_rfl
theorem ta_ss (v : Value) (w : World) : (Instr.typeAssert (.iface 86 v) 88 86 true).run Try.prog w = .ok (.tuple #[v, .bool true]) w := by kernel_rfl

theorem backward_any (b m : Nat) (w : World) : Calls Try.prog 85 #[sqV b m] w fun e w' => e = .returned (.func (.func 101) #[] #[.pointer (some ⟨w.heap.size, 0, none⟩)]) ∧ w.alloc (.cells #[sqV b m] 49) = w' := by
  go_enter Try.func85, Try.ntmps85
  go_wp2
  go_ret
  exact ⟨rfl, rfl⟩

/-- a program that fits n points, and its place -/
abbrev BackE (n : Nat) : Type := { x : Nat × Pr // x.2.ok n }
abbrev encE {n : Nat} (x : BackE n) : Array Value := #[.int .i64 (x.val.1 : Int), x.val.2.val]
/-- the last k programs, from the last one on -/
def backTo {n : Nat} (ps : List Pr) (hp : ∀ p, p ∈ ps → p.ok n) : Nat → List (BackE n)
  | 0 => []
  | k + 1 => backTo ps hp k ++ (if h : ps.length - 1 - k < ps.length then [⟨(ps.length - 1 - k, ps[ps.length - 1 - k]), hp _ (List.getElem_mem h)⟩] else [])
theorem back_len {n : Nat} (ps : List Pr) (hp : ∀ p, p ∈ ps → p.ok n) : ∀ k, (backTo ps hp k).length ≤ k
  | 0 => Nat.le_refl _
  | k + 1 => by
    have := back_len ps hp k
    unfold backTo
    split
    · rw [List.length_append, List.length_singleton]; omega
    · rw [List.length_append, List.length_nil]; omega
theorem back_step {n : Nat} (ps : List Pr) (hp : ∀ p, p ∈ ps → p.ok n) (i : Nat) (hi : i < ps.length) : backTo ps hp (ps.length - i) = backTo ps hp (ps.length - 1 - i) ++ [⟨(i, ps[i]), hp _ (List.getElem_mem hi)⟩] := by
  have e : ps.length - i = (ps.length - 1 - i) + 1 := by omega
  rw [e]
  show backTo ps hp (ps.length - 1 - i) ++ _ = _
  have e2 : ps.length - 1 - (ps.length - 1 - i) = i := by omega
  simp only [e2]
  rw [dif_pos hi]

/-- both blocks lie as they lay -/
def Keep2 (B b : Nat) (W W' : World) : Prop := KeepB B W W' ∧ KeepB b W W'

set_option maxRecDepth 100000 in
set_option maxHeartbeats 4000000 in
theorem back1_in {m : Nat} (n : Nat) (_hn : 1 ≤ n) (l B b : Nat) (ps : List Pr) (hp : ∀ p, p ∈ ps → p.ok m) (h2 : ps.length ≤ 2) (J Jx : List (BackE m) → World → Prop)
    (hY : ∀ pre x W, J pre W → pre.length < 2 → YieldAt Fence.wide (n - 1) Try.prog l (encE x) W fun e W' =>
      (e = .returned (.bool true) ∧ J (pre ++ [x]) W' ∧ Keep2 B b W W') ∨ (e = .returned (.bool false) ∧ Jx (pre ++ [x]) W'))
    (W : World) (hr : Boxed W B 49 (sqV b ps.length)) (hs : SeqAt W b ps) (h0 : J [] W) :
    CallsIn Fence.wide n Try.prog 101 #[.func (.yield l) #[] #[], .pointer (some ⟨B, 0, none⟩)] W fun e W' => (∃ v, e = .returned v) ∧
      ((∃ ys, ys = backTo ps hp ps.length ∧ J ys W') ∨ (∃ pre, True ∧ Jx pre W')) := by
  refine callsIn_of_wp Try.func101 rfl trivial ?_ rfl
  simp only [Try.ntmps101, List.size_toArray, List.length_cons, List.length_nil, Nat.reduceAdd, Nat.reduceSub, Array.replicate_succ, Array.replicate_zero, List.push_toArray, List.append_toArray, List.nil_append, List.cons_append]
  have hc0 := hr.cell
  unfold sqV at hc0
  have HS := Lib.hid (back_step ps hp)
  have HL := Lib.hid (back_len ps hp)
  obtain ⟨M, hM⟩ : ∃ M, ps.length = M := ⟨_, rfl⟩
  obtain ⟨bt, hbt⟩ : ∃ bt : Nat → List (BackE m), backTo ps hp = bt := ⟨_, rfl⟩
  have hb0 : bt 0 = [] := by rw [← hbt]; rfl
  have h0 : J (bt 0) W := by rw [hb0]; exact h0
  rw [hM] at hc0 h2
  rw [hbt] at HL
  have HB := Lib.hid (And.intro HS.out (And.intro hM hbt))
  have h0b : J (bt (M - M)) W := by rw [Nat.sub_self]; exact h0
  clear HS hM hbt hb0 h0
  gi_wp2
  gi_loopw [3] (fun i wr => ∃ k : Nat, k ≤ M ∧ i = .int .i64 ((k : Int) - 1) ∧ J (bt (M - k)) wr ∧ Boxed wr B 49 (.slice (some ⟨b, 0, none⟩) M M) ∧ SeqAt wr b ps)
    (fun i _ => (intOf i + 1).toNat)
  case atStart => exact ⟨M, Nat.le_refl _, by go_num, h0b, by rw [← HB.out.2.1]; exact hr, hs⟩
  case round =>
    clear hc0 hr hs h0b
    obtain ⟨k, hk, rfl, hJs, hr, hs⟩ := hrel
    have hc0 := hr.cell
    cases k with
    | zero =>
      gi_wp2
      go_end0
      exact ⟨⟨_, rfl⟩, .inl ⟨_, rfl, by rw [HB.out.2.1, HB.out.2.2]; exact hJs⟩⟩
    | succ k =>
      rw [show (((k + 1 : Nat) : Int) - 1) = (k : Int) by omega]
      obtain ⟨x, hx1, hx2, hx3⟩ : ∃ x : BackE m, x.val.1 = k ∧ ps[k]? = some x.val.2 ∧ bt (M - k) = bt (M - (k + 1)) ++ [x] := by
        have hlt : k < ps.length := by rw [HB.out.2.1]; omega
        refine ⟨⟨(k, ps[k]), hp _ (List.getElem_mem hlt)⟩, rfl, List.getElem?_eq_getElem hlt, ?_⟩
        have := HB.out.1 k hlt
        rw [HB.out.2.2, HB.out.2.1] at this
        rw [show M - (k + 1) = M - 1 - k by omega]
        exact this
      have hc1 := hs.cell k hx2
      have hi1 : (k : Int) < (M : Int) := by omega
      have hln : (bt (M - (k + 1))).length < 2 := Nat.lt_of_le_of_lt (HL.out _) (by omega)
      obtain ⟨fn, tmps, assign, body, hy, hR⟩ := hY _ x wr hJs hln
      unfold encE at hy
      rw [hx1] at hy
      rw [← hx3] at hR
      have HX := Lib.hid hx3
      clear hx1 hx2 hx3 hln hJs HB HL
      gi_wp2
      refine hR.mono ?_
      rintro e W3 (⟨rfl, hJ3, hk3, hk4⟩ | ⟨rfl, hJx3⟩)
      · have hr3 : Boxed W3 B 49 (.slice (some ⟨b, 0, none⟩) M M) := Eq.trans hk3 hr
        have hs3 : SeqAt W3 b ps := Eq.trans hk4 hs
        clear hr hs hc0 hc1
        have hc0 := hr3.cell
        gi_wp2
        go_roundw
        case rel => exact ⟨k, by omega, by go_num, hJ3, hr3, hs3⟩
        case measure => simp [intOf]
      · gi_wp2
        refine bodyPost_ret (results_none rfl _ _ _) rfl ?_
        exact ⟨⟨_, rfl⟩, .inr ⟨_, trivial, hJx3⟩⟩
/-- the iterator as a range over a function asks it -/
theorem back_stops {m : Nat} (n : Nat) (hn : 1 ≤ n) (B b : Nat) (ps : List Pr) (hp : ∀ p, p ∈ ps → p.ok m) (h2 : ps.length ≤ 2) (w : World) (hr : Boxed w B 49 (sqV b ps.length)) (hs : SeqAt w b ps) :
    SeqStopsK Fence.wide n Try.prog 101 #[.pointer (some ⟨B, 0, none⟩)] (encE (n := m)) (Keep2 B b) (fun ys => ys = backTo ps hp ps.length) (fun _ => True) 2 w := fun l J Jx W hW _ _ hY h0 =>
  back1_in n hn l B b ps hp h2 J Jx hY W (Eq.trans (hW.block _ hr.lt) hr) (hs.below hW hs.lt) h0

theorem seqAt_own {α : Type} (b : Nat) (f : α → List Pr) : Own (fun (s : α) W => SeqAt W b (f s)) := by
  intro s W W' row hs hg hr
  refine (hg.block b hs.lt ?_).trans hs
  intro e
  obtain ⟨o, ho, hc⟩ := hr b e.symm
  unfold SeqAt at hs
  rw [hs] at ho
  simp only [Option.some.injEq] at ho
  rw [← ho] at hc
  exact absurd hc (by simp [Obj.isCells])
theorem back_st {n : Nat} (h4 : n ≤ 4) {p : Pr} (hp : p.ok n) {s : Int} (hs : St n s) : St n (p.back s) := by
  cases p with
  | test z => exact St.and h4 hs hp
  | step xs => exact St.img hp.2.turn hs
def accB {n : Nat} (z : Int) (pre : List (BackE n)) : Int := pre.foldl (fun s x => x.val.2.back s) z
theorem accB_snoc {n : Nat} (z : Int) (pre : List (BackE n)) (x : BackE n) : accB z (pre ++ [x]) = x.val.2.back (accB z pre) := by
  unfold accB
  rw [List.foldl_append]
  rfl
theorem accB_st {n : Nat} (h4 : n ≤ 4) {z : Int} (hz : St n z) (pre : List (BackE n)) : St n (accB z pre) := by
  have h : ∀ (l : List (BackE n)) (s : Int), St n s → St n (l.foldl (fun s x => x.val.2.back s) s) := by
    intro l
    induction l with
    | nil => intro s hs; exact hs
    | cons x r ih => intro s hs; exact ih _ (back_st h4 x.property hs)
  exact h pre z hz

theorem back_post {W w2 : World} {b0 B b : Nat} {u u' : Value} {ps : List Pr} (hb : Below W.heap.size W w2) (h1 : Boxed W b0 44 u) (h2 : Boxed W B 49 u') (h3 : SeqAt W b ps) (n1 : B ≠ b0) (n2 : b ≠ b0) (v : Value) :
    KeepsOthers W (w2.setCell ⟨b0, 0, none⟩ v) ∧ Keep2 B b W (w2.setCell ⟨b0, 0, none⟩ v) ∧ (Boxed (w2.setCell ⟨b0, 0, none⟩ v) b0 44 v ∧ Boxed (w2.setCell ⟨b0, 0, none⟩ v) B 49 u' ∧ SeqAt (w2.setCell ⟨b0, 0, none⟩ v) b ps) ∧ Below b0 W (w2.setCell ⟨b0, 0, none⟩ v) := by
  have k1 : Boxed w2 b0 44 u := Eq.trans (hb.block _ h1.lt) h1
  have k2 : (w2.setCell ⟨b0, 0, none⟩ v).heap[B]? = W.heap[B]? := (Below.heap_setCell w2 ⟨b0, 0, none⟩ v B n1).trans (hb.block _ h2.lt)
  have k3 : (w2.setCell ⟨b0, 0, none⟩ v).heap[b]? = W.heap[b]? := (Below.heap_setCell w2 ⟨b0, 0, none⟩ v b n2).trans (hb.block _ h3.lt)
  exact ⟨(keepsO_below hb).trans (KeepsOthers.setCell _ _ _), ⟨k2, k3⟩, ⟨k1.set v, Eq.trans k2 h2, Eq.trans k3 h3⟩, (hb.mono (Nat.le_of_lt h1.lt)).setCell (p := ⟨b0, 0, none⟩) (Nat.le_refl _) v⟩

set_option maxRecDepth 100000 in
set_option maxHeartbeats 4000000 in
theorem before_in {n : Nat} (h4 : n ≤ 4) (ps : List Pr) (h2 : ps.length ≤ 2) (hp : ∀ p, p ∈ ps → p.ok n) (b : Nat) (z : Int) (hz : St n z) (w : World) (hs : SeqAt w b ps) :
    CallsIn Fence.wide 6 Try.prog 52 #[sqV b ps.length, .int .i64 z] w fun e w' => e = .returned (.int .i64 (accB z (backTo ps hp ps.length))) ∧ Below w.heap.size w w' := by
  refine callsIn_of_wp_marks Try.func52 rfl trivial ?_ rfl
  simp only [Try.ntmps52, List.size_toArray, List.length_cons, List.length_nil, Nat.reduceAdd, Nat.reduceSub, Array.replicate_succ, Array.replicate_zero, List.push_toArray, List.append_toArray, List.nil_append, List.cons_append]
  gi_wp2_with (refine ⟨trivial, ?_⟩; gi_at_call 85; refine (callsIn_wide.2 (backward_any b ps.length _)).mono ?_; rintro e w2 ⟨rfl, rfl⟩)
  have s1 : Boxed ((w.alloc (.cells #[.int .i64 z] 44)).alloc (.cells #[sqV b ps.length] 49)) w.heap.size 44 (.int .i64 z) := (Boxed.new w 44 (.int .i64 z)).alloc _
  have s2 : Boxed ((w.alloc (.cells #[.int .i64 z] 44)).alloc (.cells #[sqV b ps.length] 49)) (w.heap.size + 1) 49 (sqV b ps.length) := by
    have h := Boxed.new (w.alloc (.cells #[.int .i64 z] 44)) 49 (sqV b ps.length)
    rw [World.size_alloc] at h
    exact h
  have q1 := (hs.alloc (.cells #[.int .i64 z] 44)).alloc (.cells #[sqV b ps.length] 49)
  have B0 := below_two w (.cells #[.int .i64 z] 44) (.cells #[sqV b ps.length] 49)
  have sz : w.heap.size + 1 + 1 = ((w.alloc (.cells #[.int .i64 z] 44)).alloc (.cells #[sqV b ps.length] 49)).heap.size := by simp
  have hbl := hs.lt
  obtain ⟨W0, hW0⟩ : ∃ W0, ((w.alloc (.cells #[.int .i64 z] 44)).alloc (.cells #[sqV b ps.length] 49)) = W0 := ⟨_, rfl⟩
  rw [hW0] at s1 s2 q1 B0 sz ⊢
  clear hW0
  have kb : ∀ (W : World) (l : Nat) (o o' : Obj), W0.heap.size ≤ l → W.heap[l]? = some o → o.isCells = false → o.isWalk = false → Keep2 (w.heap.size + 1) b W (W.putObj l o') := fun W l o o' hl _ _ _ => ⟨World.putObj_heap_other (by omega), World.putObj_heap_other (by omega)⟩
  refine wpIn_rangeFunc_ownF (w0 := W0) rfl (by omega) (gf := 101) (lb := #[.pointer (some ⟨w.heap.size + 1, 0, none⟩)]) rfl trivial (enters_of Try.func101 (by kernel_rfl) rfl)
    (back_stops 5 (by omega) (w.heap.size + 1) b ps hp h2 W0 s2 q1) (fun h k => ⟨h.1.t k.1, h.2.t k.2⟩) kb (Below.refl _ _) (fun _ => rfl)
    (fun pre W => (Boxed W w.heap.size 44 (.int .i64 (accB z pre)) ∧ Boxed W (w.heap.size + 1) 49 (sqV b ps.length) ∧ SeqAt W b ps) ∧ Below w.heap.size w W)
    (fun _ _ _ => False)
    (OwnFrom.and (Own.from (fun s A B row hs hg hr => ⟨boxed_own _ _ (fun pre => .int .i64 (accB z pre)) s A B row hs.1 hg hr, boxed_own _ _ (fun _ => sqV b ps.length) s A B row hs.2.1 hg hr, seqAt_own _ (fun _ => ps) s A B row hs.2.2 hg hr⟩) _) (ownFrom_below (Nat.le_refl _) (by omega)))
    (fun _ _ _ _ _ hs _ _ => hs)
    ⟨⟨s1, s2, q1⟩, B0⟩
    (fun x => { tmps := #[sqV b ps.length, .int .i64 z, undef, .pointer (some ⟨w.heap.size, 0, none⟩), .int .i64 0, undef, x.val.2.val, undef, undef, sqV b ps.length, .func (.func 101) #[] #[.pointer (some ⟨w.heap.size + 1, 0, none⟩)], .int .i64 (x.val.1 : Int), x.val.2.val, undef, undef, undef, undef, undef, undef, undef, undef, undef, undef, undef, undef, undef, undef, undef, undef], defers := [] }) ?assign ?body ?done ?stop
  case assign =>
    intro l x W K hK
    gi_wp2
    exact hK
  case body =>
    rintro l pre x W ⟨⟨ha, hi, hq⟩, hB⟩ hlen
    have hst := accB_st h4 hz pre
    have hsn := accB_snoc z pre x
    obtain ⟨p, hpx⟩ : ∃ p, x.val.2 = p := ⟨_, rfl⟩
    obtain ⟨i, hix⟩ : ∃ i, x.val.1 = i := ⟨_, rfl⟩
    have hok : p.ok n := hpx ▸ x.property
    rw [hpx] at hsn
    rw [hpx, hix]
    obtain ⟨s, hs0⟩ : ∃ s, accB z pre = s := ⟨_, rfl⟩
    obtain ⟨s', hs1⟩ : ∃ s', accB z (pre ++ [x]) = s' := ⟨_, rfl⟩
    rw [hs0] at hst ha hsn
    rw [hs1] at hsn
    have HS1 := Lib.hid hs1
    have p0 := ha.cell
    have f0 := ha.frozen
    have hmo : Try.prog.follows .mixedOrders = true := by kernel_rfl
    have hsz : w.heap.size + 1 < W.heap.size := hi.lt
    have hwb : Below w.heap.size w W := hB
    clear hlen hpx hix hs0 hs1 s1 s2 q1 B0 sz kb hB
    cases p with
    | test t =>
      have hsn2 : s' = bits .and .i64 s t := hsn
      subst hsn2
      clear hok hst hsn
      unfold Pr.val
      dsimp only
      have k1 := fun w => ta_tt (.agg #[.int .i64 t]) w
      have ha1 := ha.alloc (.cells #[.int .i64 t] 97)
      have p1 := ha1.cell
      gi_wp2_with (refine ⟨trivial, ?_⟩; gi_at_call 86; refine (CallsIn.inRound l (callsIn_wide.2 (leadTest t s _))).mono ?_; rintro e w2 ⟨rfl, hb⟩; have ha2 : Boxed w2 w.heap.size 44 (.int .i64 s) := Eq.trans (hb.block _ ha1.lt) ha1; have f2 := ha2.frozen; have p2 := ha2.cell)
      have hb2 := (below_one W (.cells #[.int .i64 t] 97)).trans (hb.mono (below_one W (.cells #[.int .i64 t] 97)).size)
      have E := back_post hb2 ha hi hq (by omega) (by omega) (.int .i64 (bits .and .i64 s t))
      exact ⟨E.1, E.2.1, ⟨by rw [HS1.out]; exact E.2.2.1.1, E.2.2.1.2⟩, hwb.trans E.2.2.2⟩
    | step xs =>
      obtain ⟨hn, R⟩ := hok
      subst hn
      have hsn2 : s' = imgA (turnL xs) s := hsn
      subst hsn2
      clear hsn
      unfold Pr.val
      dsimp only
      have k1 := fun w => ta_st (relOf xs) w
      have k2 := fun w => ta_ss (relOf xs) w
      have ha1 := ha.alloc (.cells #[.int .i64 xs.length, .int .i64 (rowAt xs 0), .int .i64 (rowAt xs 1), .int .i64 (rowAt xs 2), .int .i64 (rowAt xs 3)] 86)
      have bn : (W.alloc (.cells #[.int .i64 xs.length, .int .i64 (rowAt xs 0), .int .i64 (rowAt xs 1), .int .i64 (rowAt xs 2), .int .i64 (rowAt xs 3)] 86)).heap[W.heap.size]? = some (.cells #[.int .i64 xs.length, .int .i64 (rowAt xs 0), .int .i64 (rowAt xs 1), .int .i64 (rowAt xs 2), .int .i64 (rowAt xs 3)] 86) := heap_alloc_new W _
      have B1 := (below_one W (.cells #[.int .i64 xs.length, .int .i64 (rowAt xs 0), .int .i64 (rowAt xs 1), .int .i64 (rowAt xs 2), .int .i64 (rowAt xs 3)] 86)).drew
      have H := Lib.hid (And.intro (fun w => turnedR R w) (fun w => relatedToSome_any (xs := turnL xs) (by rw [R.turn.len]; exact R.turn) (by rw [R.turn.len]; exact hst) w))
      clear hst R hz p0 f0
      gi_wp2
      obtain ⟨W1, hW1⟩ : ∃ W1, W.alloc (.cells #[.int .i64 xs.length, .int .i64 (rowAt xs 0), .int .i64 (rowAt xs 1), .int .i64 (rowAt xs 2), .int .i64 (rowAt xs 3)] 86) = W1 := ⟨_, rfl⟩
      rw [hW1] at ha1 bn B1 ⊢
      obtain ⟨nb, hnb⟩ : ∃ nb, W.heap.size = nb := ⟨_, rfl⟩
      have c0 : W1.cell? ⟨W.heap.size, 0, none⟩ = some (.int .i64 xs.length) := by simp [World.cell?, bn]
      have c1 : W1.cell? ⟨W.heap.size, 1, none⟩ = some (.int .i64 (rowAt xs 0)) := by simp [World.cell?, bn]
      have c2 : W1.cell? ⟨W.heap.size, 2, none⟩ = some (.int .i64 (rowAt xs 1)) := by simp [World.cell?, bn]
      have c3 : W1.cell? ⟨W.heap.size, 3, none⟩ = some (.int .i64 (rowAt xs 2)) := by simp [World.cell?, bn]
      have c4 : W1.cell? ⟨W.heap.size, 4, none⟩ = some (.int .i64 (rowAt xs 3)) := by simp [World.cell?, bn]
      have p1 := ha1.cell
      have B1 := Lib.hid B1
      clear hW1 bn k1 k2 hnb
      gi_region_with_o (first
        | (refine ⟨trivial, ?_⟩; gi_at_call 50; refine (CallsIn.inRound l (callsIn_wide.2 (H.out.1 _))).mono ?_; rintro e w2 ⟨rfl, hb⟩; have ha2 : Boxed w2 w.heap.size 44 (.int .i64 s) := Eq.trans (hb.block _ ha1.lt) ha1; have p2 := ha2.cell; have B2 := B1.out.trans (hb.mono B1.out.size))
        | (refine ⟨trivial, ?_⟩; gi_at_call 87; refine (CallsIn.inRound l (callsIn_wide.2 (H.out.2 _))).mono ?_; rintro e w3 ⟨rfl, hb3⟩; have ha3 : Boxed w3 w.heap.size 44 (.int .i64 s) := Eq.trans (hb3.block _ ha2.lt) ha2; have f3 := ha3.frozen; have p3 := ha3.cell; have B3 := B2.trans (hb3.mono B2.size)))
      all_goals
        gi_wp2
        have E := back_post B3 ha hi hq (by omega) (by omega) (.int .i64 (imgA (turnL xs) s))
        exact ⟨E.1, E.2.1, ⟨by rw [HS1.out]; exact E.2.2.1.1, E.2.2.1.2⟩, hwb.trans E.2.2.2⟩
  case done =>
    rintro D ys W hD rfl ⟨⟨ha, hi, hq⟩, hB⟩ hK
    have p0 := ha.cell
    gi_wp2
    refine ⟨by simp, .inl ⟨_, _, rfl, run_takeDeferred hK, ?_⟩⟩
    exact ⟨.int .i64 (accB z (backTo ps hp ps.length)), by simp [results, Try.results52, go_sem], rfl, hB.trans (belowK_b (w := w) (Nat.le_refl _) W D _ _ (by omega) hK rfl rfl)⟩
  case stop =>
    rintro D c pre W _ _ h _
    exact h.elim
end Go.Proofs.Ytcdiicckngndcab
