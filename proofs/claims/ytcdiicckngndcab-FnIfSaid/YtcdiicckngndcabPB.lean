/-
  The program's programs: tests and steps behind one interface; relatedToSome, leadFrom, once, onceFrom, after, otherStates, surely, before; for relations of at most 4 points.
-/
import Derived.Test.YtcdiicckngndcabPA
import Derived.Test.YtcdiicckngndcabEN
import Derived.Deep.RegionHeld3
namespace Go.Proofs.Ytcdiicckngndcab
open Go.RowKit

theorem img_step (xs : List Int) (z : Fin 16) (k : Nat) (hk : k < 4) : imgTo xs (z.val : Int) (k + 1) = if hasB (z.val : Int) k then bits .or .i64 (imgTo xs (z.val : Int) k) (rowAt xs k) else imgTo xs (z.val : Int) k := by
  rw [imgTo_succ, b_bit z ⟨k, hk⟩]

set_option maxHeartbeats 1000000 in
theorem relatedToSome_any {xs : List Int} (R : Rl xs.length xs) {z : Int} (hz : St xs.length z) (w : World) :
    Calls Try.prog 87 #[relOf xs, .int .i64 z] w fun e w' => e = .returned (.int .i64 (imgA xs z)) ∧ Below w.heap.size w w' := by
  obtain ⟨u, rfl, _⟩ := hz
  have h1 := R.one
  have h4 := R.four
  have x0 := RelAt.new w xs
  have B0 := below_one w (.cells #[.int .i64 xs.length, .int .i64 (rowAt xs 0), .int .i64 (rowAt xs 1), .int .i64 (rowAt xs 2), .int .i64 (rowAt xs 3)] 47)
  have p0 := x0.cell0
  have HS := Lib.hid (img_step xs u)
  clear R
  go_enter Try.func87, Try.ntmps87
  go_wp2
  go_loopw [5, 9, 6] (fun f i _ wr => ∃ k : Nat, k ≤ xs.length ∧ i = .int .i64 k ∧ f = .int .i64 (imgTo xs (u.val : Int) k) ∧ RelAt wr w.heap.size xs ∧ Below w.heap.size w wr)
    (fun _ i _ _ => xs.length - (intOf i).toNat)
  case atStart => exact ⟨0, Nat.zero_le _, rfl, rfl, x0, B0⟩
  case round =>
    obtain ⟨k, hk, rfl, rfl, hr, hB⟩ := hrel
    clear x0 B0 p0
    by_cases hlt : k < xs.length
    · have hc1 := hr.row k (by omega)
      have hq : (k : Int) < 4 := by omega
      have hst := HS.out k (by omega)
      cases hz : hasB (u.val : Int) k with
      | false =>
        rw [hz, if_neg Bool.false_ne_true] at hst
        have HST := Lib.hid hst
        clear hst
        go_wp2_with (go_at_call 99; refine (has_any _ k (by omega) _).mono ?_; rintro e w2 ⟨rfl, rfl⟩)
        go_roundw
        case rel => exact ⟨k + 1, by omega, by go_num, by rw [HST.out], hr, hB⟩
        case measure => simp [intOf]; omega
      | true =>
        rw [hz, if_pos rfl] at hst
        have HST := Lib.hid hst
        clear hst
        go_wp2_with (go_at_call 99; refine (has_any _ k (by omega) _).mono ?_; rintro e w2 ⟨rfl, rfl⟩)
        go_roundw
        case rel => exact ⟨k + 1, by omega, by go_num, by rw [HST.out], hr, hB⟩
        case measure => simp [intOf]; omega
    · go_wp2
      go_ret
      obtain rfl : k = xs.length := by omega
      exact ⟨rfl, hB⟩

theorem otherStates_any (z : Int) (n : Nat) (h1 : 1 ≤ n) (h4 : n ≤ 4) (w : World) :
    Calls Try.prog 89 #[.int .i64 z, .int .i64 n] w fun e w' => e = .returned (.int .i64 (notA n z)) ∧ w = w' := by
  have hp := pow_top n h1 h4
  unfold notA
  rw [← hp]
  have HP := Lib.hid hp
  clear hp
  go_enter Try.func89, Try.ntmps89
  go_wp2_with (go_at_call 88; refine (allPoints_any _ h1 h4 _).mono ?_; rintro e w' ⟨rfl, rfl⟩)
  go_ret
  exact ⟨rfl, rfl⟩

/-- a test or a step -/
inductive Pr where
  | test (z : Int)
  | step (xs : List Int)
def Pr.val : Pr → Value
  | .test z => .iface 97 (.agg #[.int .i64 z])
  | .step xs => .iface 86 (relOf xs)
def Pr.ok (n : Nat) : Pr → Prop
  | .test z => St n z
  | .step xs => xs.length = n ∧ Rl n xs
def Pr.lead : Pr → Int → Int
  | .test z, s => bits .and .i64 s z
  | .step xs, s => imgA xs s
def Pr.back : Pr → Int → Int
  | .test z, s => bits .and .i64 s z
  | .step xs, s => imgA (turnL xs) s

theorem m_test (v : Value) (w : World) : (method 228 97 v "loop.example/fewrelations/impl.leadFrom").run Try.prog w = .ok (86, v) w := by kernel_rfl
theorem m_step (v : Value) (w : World) : (method 228 86 v "loop.example/fewrelations/impl.leadFrom").run Try.prog w = .ok (123, v) w := by kernel_rfl

/-- the programs that are gone through one behind the other -/
def SeqAt (w : World) (b : Nat) (ps : List Pr) : Prop := w.heap[b]? = some (.cells (ps.map Pr.val).toArray 88 (0, 0))
theorem SeqAt.cell {w : World} {b : Nat} {ps : List Pr} (h : SeqAt w b ps) (k : Nat) {p : Pr} (hk : ps[k]? = some p) : w.cell? ⟨b, k, none⟩ = some p.val := by
  unfold SeqAt at h
  simp [World.cell?, h, hk]
theorem SeqAt.lt {w : World} {b : Nat} {ps : List Pr} (h : SeqAt w b ps) : b < w.heap.size := (Array.getElem?_eq_some_iff.1 h).1
theorem SeqAt.below {w w' : World} {B b : Nat} {ps : List Pr} (h : SeqAt w b ps) (hb : Below B w w') (hlt : b < B) : SeqAt w' b ps := (hb.block b hlt).trans h
theorem SeqAt.alloc {w : World} {b : Nat} {ps : List Pr} (h : SeqAt w b ps) (o : Obj) : SeqAt (w.alloc o) b ps := (Below.heap_alloc w o b h.lt).trans h
theorem SeqAt.other {w : World} {b : Nat} {ps : List Pr} (h : SeqAt w b ps) {p : Addr} (hp : b ≠ p.block) (v : Value) : SeqAt (w.setCell p v) b ps := (Below.heap_setCell w p v b hp).trans h
theorem SeqAt.made (w : World) (cs : Array Value) (ps : List Pr) (h : cs = (ps.map Pr.val).toArray) : SeqAt (w.alloc (.cells cs 88)) w.heap.size ps := by
  subst h
  exact heap_alloc_new _ _
def sqV (b n : Nat) : Value := .slice (some ⟨b, 0, none⟩) n n
/-- what a call gives that makes programs -/
def GaveSeq (w : World) (ps : List Pr) (e : Ending) (w' : World) : Prop := ∃ b, e = .returned (sqV b ps.length) ∧ w.heap.size ≤ b ∧ SeqAt w' b ps ∧ Below w.heap.size w w'

theorem seq_one (w : World) (o : Obj) (xs : List Int) : SeqAt ((w.alloc o).alloc (.cells #[.iface 86 (relOf xs)] 88)) (w.heap.size + 1) [.step xs] := by
  have h := heap_alloc_new (w.alloc o) (.cells #[.iface 86 (relOf xs)] 88)
  rw [World.size_alloc] at h
  exact h
theorem seq_two (w : World) (o : Obj) (z : Int) (xs : List Int) : SeqAt ((w.alloc o).alloc (.cells #[.iface 97 (.agg #[.int .i64 z]), .iface 86 (relOf xs)] 88)) (w.heap.size + 1) [.test z, .step xs] := by
  have h := heap_alloc_new (w.alloc o) (.cells #[.iface 97 (.agg #[.int .i64 z]), .iface 86 (relOf xs)] 88)
  rw [World.size_alloc] at h
  exact h
theorem once_any (xs : List Int) (w : World) : Calls Try.prog 45 #[relOf xs] w (GaveSeq w [.step xs]) := by
  go_enter Try.func45, Try.ntmps45
  go_wp2
  go_ret
  exact ⟨w.heap.size + 1, rfl, Nat.le_succ _, seq_one _ _ _, below_two _ _ _⟩
theorem onceFrom_any (z : Int) (xs : List Int) (w : World) : Calls Try.prog 90 #[.int .i64 z, relOf xs] w (GaveSeq w [.test z, .step xs]) := by
  go_enter Try.func90, Try.ntmps90
  go_wp2
  go_ret
  exact ⟨w.heap.size + 1, rfl, Nat.le_succ _, seq_two _ _ _ _, below_two _ _ _⟩
theorem leadTest (z s : Int) (w : World) : Calls Try.prog 86 #[.agg #[.int .i64 z], .int .i64 s] w fun e w' => e = .returned (.int .i64 (bits .and .i64 s z)) ∧ Below w.heap.size w w' := by
  go_enter Try.func86, Try.ntmps86
  go_wp2
  go_ret
  exact ⟨rfl, below_one _ _⟩
theorem leadStep {xs : List Int} (R : Rl xs.length xs) {s : Int} (hs : St xs.length s) (w : World) : Calls Try.prog 123 #[relOf xs, .int .i64 s] w fun e w' => e = .returned (.int .i64 (imgA xs s)) ∧ Below w.heap.size w w' := by
  have H := Lib.hid (fun w => relatedToSome_any R hs w)
  have B0 := below_one w (.cells #[.int .i64 xs.length, .int .i64 (rowAt xs 0), .int .i64 (rowAt xs 1), .int .i64 (rowAt xs 2), .int .i64 (rowAt xs 3)] 86)
  clear R hs
  go_enter Try.func123, Try.ntmps123
  go_wp2_with fail
  refine (H.out _).mono ?_
  rintro e w2 ⟨rfl, hb⟩
  have B := B0.trans (hb.mono B0.size)
  clear hb B0
  go_wp2
  go_ret
  exact ⟨rfl, B⟩
theorem lead_st {n : Nat} (h4 : n ≤ 4) {p : Pr} (hp : p.ok n) {s : Int} (hs : St n s) : St n (p.lead s) := by
  cases p with
  | test z => exact St.and h4 hs hp
  | step xs => exact St.img hp.2 hs
/-- what is behind the first k programs -/
def aftTo (ps : List Pr) (z : Int) (k : Nat) : Int := (ps.take k).foldl (fun s p => p.lead s) z
def aftA (ps : List Pr) (z : Int) : Int := ps.foldl (fun s p => p.lead s) z
theorem aft_step (ps : List Pr) (z : Int) (k : Nat) (p : Pr) (h : ps[k]? = some p) : aftTo ps z (k + 1) = p.lead (aftTo ps z k) := by
  unfold aftTo
  obtain ⟨hk, e⟩ := List.getElem?_eq_some_iff.1 h
  rw [List.take_succ_eq_append_getElem hk, List.foldl_append, e]
  rfl
theorem aft_st {n : Nat} (h4 : n ≤ 4) {ps : List Pr} (hp : ∀ p, p ∈ ps → p.ok n) {z : Int} (hz : St n z) : ∀ k, k ≤ ps.length → St n (aftTo ps z k)
  | 0, _ => hz
  | k + 1, hk => by
    rw [aft_step ps z k ps[k] (List.getElem?_eq_getElem hk)]
    exact lead_st h4 (hp _ (List.getElem_mem _)) (aft_st h4 hp hz k (by omega))
theorem aft_all (ps : List Pr) (z : Int) : aftTo ps z ps.length = aftA ps z := by
  unfold aftTo aftA
  rw [List.take_length]

set_option maxRecDepth 100000 in
set_option maxHeartbeats 1000000 in
theorem after_any {n : Nat} (h4 : n ≤ 4) (ps : List Pr) (h2 : ps.length ≤ 2) (hp : ∀ p, p ∈ ps → p.ok n) (b : Nat) (z : Int) (hz : St n z) (w : World) (hs : SeqAt w b ps) :
    Calls Try.prog 46 #[sqV b ps.length, .int .i64 z] w fun e w' => e = .returned (.int .i64 (aftA ps z)) ∧ Below w.heap.size w w' := by
  unfold sqV
  obtain ⟨m, hm⟩ : ∃ m, ps.length = m := ⟨_, rfl⟩
  have HA := Lib.hid (hm ▸ aft_all ps z)
  have HS := Lib.hid (And.intro (aft_step ps z) (hm ▸ aft_st h4 hp hz))
  have HP := Lib.hid (And.intro hp (And.intro hs hm))
  rw [hm]
  rw [hm] at h2
  clear hp hz hs hm
  go_enter Try.func46, Try.ntmps46
  go_wp2
  go_loopw [1, 9, 6] (fun f i _ wr => ∃ k : Nat, k ≤ m ∧ i = .int .i64 k ∧ f = .int .i64 (aftTo ps z k) ∧ Below w.heap.size w wr)
    (fun _ i _ _ => m - (intOf i).toNat)
  case atStart => exact ⟨0, Nat.zero_le _, rfl, rfl, Below.refl _ _⟩
  case round =>
    obtain ⟨k, hk, rfl, rfl, hB⟩ := hrel
    by_cases hlt : k < m
    · obtain ⟨p, hpk⟩ : ∃ p, ps[k]? = some p := ⟨ps[k]'(by rw [HP.out.2.2]; exact hlt), List.getElem?_eq_getElem _⟩
      have hmem : p ∈ ps := List.mem_of_getElem? hpk
      have hc := (HP.out.2.1.below hB HP.out.2.1.lt).cell k hpk
      have hok := HP.out.1 p hmem
      have hst := HS.out.2 k (by omega)
      have e := HS.out.1 k p hpk
      have hi1 : (k : Int) < (m : Int) := by omega
      cases p with
      | test t =>
        have hl := fun w => leadTest t (aftTo ps z k) w
        have hm := fun w => m_test (.agg #[.int .i64 t]) w
        have H := Lib.hid (And.intro hl e)
        clear hl e hst hok hmem hpk
        unfold Pr.val at hc
        dsimp only at hc
        go_wp2_with fail
        refine (H.out.1 _).mono ?_
        rintro e w2 ⟨rfl, hb⟩
        have B := hB.trans (hb.mono hB.size)
        clear hb hB
        go_wp2
        go_roundw
        case rel => exact ⟨k + 1, by omega, by go_num, by rw [H.out.2]; rfl, B⟩
        case measure => simp [intOf]; omega
      | step xs =>
        obtain ⟨hn, R⟩ := hok
        subst hn
        have hl := fun w => leadStep R hst w
        have hm := fun w => m_step (relOf xs) w
        have H := Lib.hid (And.intro hl e)
        clear hl e hst hmem hpk R
        unfold Pr.val at hc
        dsimp only at hc
        go_wp2_with fail
        refine (H.out.1 _).mono ?_
        rintro e w2 ⟨rfl, hb⟩
        have B := hB.trans (hb.mono hB.size)
        clear hb hB
        go_wp2
        go_roundw
        case rel => exact ⟨k + 1, by omega, by go_num, by rw [H.out.2]; rfl, B⟩
        case measure => simp [intOf]; omega
    · go_wp2
      go_ret
      obtain rfl : k = m := by omega
      exact ⟨by rw [HA.out]; rfl, hB⟩
end Go.Proofs.Ytcdiicckngndcab
