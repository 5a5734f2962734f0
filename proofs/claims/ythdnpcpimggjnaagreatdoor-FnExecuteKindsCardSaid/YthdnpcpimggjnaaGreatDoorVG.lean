/-
  A line's relation becomes the script's; a number's text; the functions behind words: kinds, rank, turned.
-/
import Derived.Test.YthdnpcpimggjnaaGreatDoorVB
import Derived.Test.YthdnpcpimggjnaaGreatDoorVD
import Derived.Test.YthdnpcpimggjnaaGreatDoorSH
import Derived.Test.YthdnpcpimggjnaaGreatDoorHG
import Derived.Test.YthdnpcpimggjnaaGreatDoorHK
import Derived.Test.YthdnpcpimggjnaaGreatDoorX
namespace Go.Proofs.YthdnpcpimggjnaaGreatDoor
open Go.RowKit

/-- a variable of the libraries that Index and Split read holds a number -/
def MaxAt (w : World) : Prop := ∃ m : Int, w.cell? ⟨0, 0, none⟩ = some (.int .i64 m)
structure Bench (w0 w : World) (bw b1 b2 : Nat) (xs : List Int) : Prop where
  base : w0.heap.size ≤ bw
  here : ∃ v, w.heap[bw]? = some (.cells #[v, .map (some b1), .map (some b2)] 53) ∧ w.ownsRow w0.heap.size 3 1 v xs.length (xs.map (Value.int .i64))
  alone : Tab w0 w b1 aloneL
  rest : Tab w0 w b2 restL
  maxlen : MaxAt w
  low : 0 < w0.heap.size
theorem Bench.lt {w0 w : World} {bw b1 b2 : Nat} {xs : List Int} (h : Bench w0 w bw b1 b2 xs) : bw < w.heap.size := by
  obtain ⟨v, hb, _⟩ := h.here
  exact (Array.getElem?_eq_some_iff.1 hb).1
theorem Bench.below0 {w0 w : World} {bw b1 b2 : Nat} {xs : List Int} (h : Bench w0 w bw b1 b2 xs) : Below w0.heap.size w0 w := h.alone.below
/-- what keeps the tables, the workbench and its list -/
theorem Bench.keep {w0 w w' : World} {bw b1 b2 : Nat} {xs : List Int} (h : Bench w0 w bw b1 b2 xs) (hb : Below w0.heap.size w w')
    (hk : ∀ k o, w.heap[k]? = some o → w0.heap.size ≤ k → ((∃ es c, o = .map es c) ∨ (∃ cs, o = .cells cs 53) ∨ ∃ cs, o = .cells cs 3) → w'.heap[k]? = some o) : Bench w0 w' bw b1 b2 xs := by
  obtain ⟨v, hbw, hr⟩ := h.here
  have hl := h.low
  refine ⟨h.base, ⟨v, hk _ _ hbw h.base (.inr (.inl ⟨_, rfl⟩)), hr.1, ?_⟩, ⟨hk _ _ h.alone.here h.alone.base (.inl ⟨_, _, rfl⟩), h.alone.below.trans hb, h.alone.base⟩, ⟨hk _ _ h.rest.here h.rest.base (.inl ⟨_, _, rfl⟩), h.rest.below.trans hb, h.rest.base⟩, ?_, h.low⟩
  · rcases hr.2 with hn | ⟨g, cap, cur, hv, hg0, hg, more⟩
    · exact .inl hn
    · exact .inr ⟨g, cap, cur, hv, hg0, hk _ _ hg hg0 (.inr (.inr ⟨_, rfl⟩)), more⟩
  · obtain ⟨m, hm⟩ := h.maxlen
    exact ⟨m, (hb.cell (p := ⟨0, 0, none⟩) hl).trans hm⟩
/-- what a step that turns the workbench alone leaves -/
theorem Bench.next {w0 w w' : World} {bw b1 b2 : Nat} {xs ys : List Int} (h : Bench w0 w bw b1 b2 xs) (hg : w.grownBy w' (some bw))
    (hh : ∃ v, w'.heap[bw]? = some (.cells #[v, .map (some b1), .map (some b2)] 53) ∧ w'.ownsRow w0.heap.size 3 1 v ys.length (ys.map (Value.int .i64))) : Bench w0 w' bw b1 b2 ys := by
  obtain ⟨v, hbw, _⟩ := h.here
  have hs := h.below0.size
  have hbs := h.base
  have hl := h.low
  have hb : Below w0.heap.size w w' := (Below.refl _ w).grown hg hs (fun k hk => by cases hk; exact hbs)
  have n1 : b1 ≠ bw := fun e => by
    have h2 := h.alone.here
    rw [e, hbw] at h2
    cases h2
  have n2 : b2 ≠ bw := fun e => by
    have h2 := h.rest.here
    rw [e, hbw] at h2
    cases h2
  refine ⟨hbs, hh, ⟨(hg.block b1 h.alone.lt (fun e => n1 (Option.some.inj e))).trans h.alone.here, h.alone.below.trans hb, h.alone.base⟩, ⟨(hg.block b2 h.rest.lt (fun e => n2 (Option.some.inj e))).trans h.rest.here, h.rest.below.trans hb, h.rest.base⟩, ?_, hl⟩
  obtain ⟨m, hm⟩ := h.maxlen
  exact ⟨m, (hb.cell (p := ⟨0, 0, none⟩) hl).trans hm⟩
theorem Below.grownAny {w w' : World} (h : Below w.heap.size w w') (row : Option Nat) : w.grownBy w' row := ⟨h.os, h.tape, h.output, h.size, fun k hk _ => h.block k hk⟩
theorem Bench.below {w0 w w' : World} {bw b1 b2 : Nat} {xs : List Int} (h : Bench w0 w bw b1 b2 xs) (hb : Below w.heap.size w w') : Bench w0 w' bw b1 b2 xs :=
  h.keep (hb.mono h.below0.size) fun k _ hk _ _ => (hb.block k (Array.getElem?_eq_some_iff.1 hk).1).trans hk
theorem grown_trans {a b c : World} {r : Option Nat} (h : a.grownBy b r) (k : b.grownBy c r) : a.grownBy c r :=
  ⟨k.os.trans h.os, k.tape.trans h.tape, k.output.trans h.output, Nat.le_trans h.size k.size, fun i hi hn => (k.block i (Nat.lt_of_lt_of_le hi h.size) hn).trans (h.block i hi hn)⟩
theorem set_other {w : World} {p : Addr} {v : Value} {k : Nat} (h : k ≠ p.block) : (w.setCell p v).heap[k]? = w.heap[k]? := by
  simp only [World.setCell, Array.getElem?_modify]
  rw [if_neg (fun e => h e.symm)]
/-- the function behind a word: from one list to another, with an answer -/
def CmdW (w0 : World) (bw b1 b2 f : Nat) (more : List Value) (xs ys : List Int) (ans : List UInt8) : Prop :=
  ∀ w, Bench w0 w bw b1 b2 xs → Calls Tryz.prog f (.pointer (some ⟨bw, 0, none⟩) :: more).toArray w fun e w' => e = .returned (.string (baOf ans)) ∧ Bench w0 w' bw b1 b2 ys ∧ w.grownBy w' (some bw)
theorem mk_func (fn : Fn) (first cap : Array Value) (w : World) : (Instr.makeFunc fn first cap).run Tryz.prog w = .ok (.func fn first cap) w := rfl

set_option maxHeartbeats 2000000 in
set_option maxRecDepth 100000 in
theorem answerTo_rest (w0 w : World) (bw b1 b2 f : Nat) (xs ys : List Int) (wd rest ans : List UInt8) (hB : Bench w0 w bw b1 b2 xs) (hsp : (32 : UInt8) ∉ wd) (hf : tabFind (baOf wd) restL = some f)
    (hcf : ∀ args w, Sem.run Tryz.prog (callFunc f args) w = .ok (.enter f args) w) (hlen : (baOf (wd ++ 32 :: rest)).size < 4294967281) (cmd : CmdW w0 bw b1 b2 f [.string (baOf rest)] xs ys ans) :
    Calls Tryz.prog 27 #[.pointer (some ⟨bw, 0, none⟩), .string (baOf (wd ++ 32 :: rest))] w fun e w' => e = .returned (.string (baOf ans)) ∧ Bench w0 w' bw b1 b2 ys ∧ w.grownBy w' (some bw) := by
  have hmf := mk_func
  have hb0 := below_one w (.cells #[.string ByteArray.empty] 9)
  have hB0 := hB.below hb0
  obtain ⟨m, hm⟩ := hB0.maxlen
  have HC := Tryz.strings_Cut (baOf (wd ++ 32 :: rest)) ⟨#[32]⟩ m (w.alloc (.cells #[.string ByteArray.empty] 9)) hlen hm
  rw [ba_data, show (⟨#[32]⟩ : ByteArray).data.toList = [32] from rfl, cut_at 32 wd rest hsp] at HC
  have hbw := hB.lt
  have hc2 : w.cell? ⟨bw, 2, none⟩ = some (.map (some b2)) := by
    obtain ⟨v, h, _⟩ := hB.here
    simp [World.cell?, h]
  obtain ⟨line, hline⟩ : ∃ l, baOf (wd ++ 32 :: rest) = l := ⟨_, rfl⟩
  obtain ⟨word, hword⟩ : ∃ l, baOf wd = l := ⟨_, rfl⟩
  obtain ⟨rst, hrst⟩ : ∃ l, baOf rest = l := ⟨_, rfl⟩
  obtain ⟨an, han⟩ : ∃ l, baOf ans = l := ⟨_, rfl⟩
  change Calls _ _ _ _ (fun e w' => e = .returned (.tuple #[.string (baOf wd), .string (baOf rest), .bool true]) ∧ ∃ n, w' = (w.alloc _).drewN n) at HC
  unfold CmdW at cmd
  rw [hline] at HC ⊢
  rw [hword] at HC hf
  rw [hrst] at HC cmd
  rw [han] at cmd ⊢
  have HK := Lib.hid (And.intro HC (And.intro cmd (And.intro hB0 (And.intro hb0 (And.intro hf hB.below0.size)))))
  clear HC cmd hB0 hb0 hf hm hlen hsp hline hword hrst han hB
  go_enter_defers Tryz.func27, Tryz.ntmps27
  go_wp2_with (go_at_call 95; refine HK.out.1.mono ?_)
  rintro e w1 ⟨rfl, n, rfl⟩
  go_wp2_with (go_at_call 96; refine (wordIn_rest word f b2 w0 _ (HK.out.2.2.1.below (below_drewN (Below.refl _ _) n)).rest HK.out.2.2.2.2.1).mono ?_)
  rintro e w2 ⟨rfl, rfl⟩
  go_wp2_with fail
  refine (HK.out.2.1 _ (HK.out.2.2.1.below (below_drewN (Below.refl _ _) n))).mono ?_
  rintro e w3 ⟨rfl, hB3, hg3⟩
  have hres : w3.heap[w.heap.size]? = some (.cells #[.string ByteArray.empty] 9) :=
    (hg3.block w.heap.size (by simp) (fun e => by cases e; omega)).trans (heap_alloc_new w _)
  have c0 : w3.cell? ⟨w.heap.size, 0, none⟩ = some (.string ByteArray.empty) := by simp [World.cell?, hres]
  have f0 : w3.frozen? ⟨w.heap.size, 0, none⟩ = false := by simp [World.frozen?, hres]
  have HB3 := Lib.hid (And.intro hB3 (And.intro hg3 hres))
  clear hB3 hg3 hres
  go_wp2
  refine leaves_cons (f := 94) (args := #[.pointer (some ⟨w.heap.size, 0, none⟩)]) (by simp) (by simp [go_sem]) ?_
  refine (catch_idle ⟨w.heap.size, 0, none⟩ _).mono ?_
  rintro e u' w'' ⟨rfl, rfl, rfl⟩
  have c1 : (w3.setCell ⟨w.heap.size, 0, none⟩ (.string an)).cell? ⟨w.heap.size, 0, none⟩ = some (.string an) := World.cell?_setCell_same _ _ _ c0
  simp [Leaves, settle, results, Tryz.results27, go_sem, c1]
  obtain ⟨hB3, hg3, hr3⟩ := HB3.out
  have hsz := hg3.size
  have hs0 := hB3.below0.size
  have hsw : w.heap.size + 1 ≤ w3.heap.size := by simpa using hsz
  have hq : w0.heap.size ≤ w.heap.size := HK.out.2.2.2.2.2
  have hbl : Below w.heap.size w3 (w3.setCell ⟨w.heap.size, 0, none⟩ (.string an)) := (Below.refl _ w3).setCell (p := ⟨w.heap.size, 0, none⟩) (Nat.le_refl _) _
  refine ⟨hB3.keep (hbl.mono hq) fun k o hk _ ho => ?_, hg3.os, hg3.tape, hg3.output, by simp; omega, fun k hk hn => ?_⟩
  · rw [set_other]
    · exact hk
    · rintro rfl
      have hres' : w3.heap[w.heap.size]? = some o := hk
      rw [hres'] at hr3
      obtain rfl := Option.some.inj hr3
      rcases ho with ⟨_, _, e⟩ | ⟨_, e⟩ | ⟨_, e⟩ <;> cases e
  · rw [set_other (by show k ≠ w.heap.size; omega)]
    exact (hg3.block k (by simp; omega) hn).trans (Below.heap_alloc w _ k hk)
set_option maxHeartbeats 2000000 in
set_option maxRecDepth 100000 in
theorem answerTo_alone (w0 w : World) (bw b1 b2 f : Nat) (xs ys : List Int) (wd ans : List UInt8) (hB : Bench w0 w bw b1 b2 xs) (hsp : (32 : UInt8) ∉ wd) (hf : tabFind (baOf wd) aloneL = some f)
    (hcf : ∀ args w, Sem.run Tryz.prog (callFunc f args) w = .ok (.enter f args) w) (hlen : (baOf wd).size < 4294967281) (cmd : CmdW w0 bw b1 b2 f [] xs ys ans) :
    Calls Tryz.prog 27 #[.pointer (some ⟨bw, 0, none⟩), .string (baOf wd)] w fun e w' => e = .returned (.string (baOf ans)) ∧ Bench w0 w' bw b1 b2 ys ∧ w.grownBy w' (some bw) := by
  have hmf := mk_func
  have hb0 := below_one w (.cells #[.string ByteArray.empty] 9)
  have hB0 := hB.below hb0
  obtain ⟨m, hm⟩ := hB0.maxlen
  have HC := Tryz.strings_Cut (baOf wd) ⟨#[32]⟩ m (w.alloc (.cells #[.string ByteArray.empty] 9)) hlen hm
  rw [ba_data, show (⟨#[32]⟩ : ByteArray).data.toList = [32] from rfl, cut_no 32 wd hsp] at HC
  have hbw := hB.lt
  have hc1 : w.cell? ⟨bw, 1, none⟩ = some (.map (some b1)) := by
    obtain ⟨v, h, _⟩ := hB.here
    simp [World.cell?, h]
  obtain ⟨word, hword⟩ : ∃ l, baOf wd = l := ⟨_, rfl⟩
  obtain ⟨an, han⟩ : ∃ l, baOf ans = l := ⟨_, rfl⟩
  change Calls _ _ _ _ (fun e w' => e = .returned (.tuple #[.string (baOf wd), .string (baOf []), .bool false]) ∧ ∃ n, w' = (w.alloc _).drewN n) at HC
  unfold CmdW at cmd
  rw [hword] at HC hf ⊢
  rw [han] at cmd ⊢
  have HK := Lib.hid (And.intro HC (And.intro cmd (And.intro hB0 (And.intro hb0 (And.intro hf hB.below0.size)))))
  clear HC cmd hB0 hb0 hf hm hlen hsp hword han hB
  go_enter_defers Tryz.func27, Tryz.ntmps27
  go_wp2_with (go_at_call 95; refine HK.out.1.mono ?_)
  rintro e w1 ⟨rfl, n, rfl⟩
  go_wp2_with (go_at_call 97; refine (wordIn_alone word f b1 w0 _ (HK.out.2.2.1.below (below_drewN (Below.refl _ _) n)).alone HK.out.2.2.2.2.1).mono ?_)
  rintro e w2 ⟨rfl, rfl⟩
  go_wp2_with fail
  refine (HK.out.2.1 _ (HK.out.2.2.1.below (below_drewN (Below.refl _ _) n))).mono ?_
  rintro e w3 ⟨rfl, hB3, hg3⟩
  have hres : w3.heap[w.heap.size]? = some (.cells #[.string ByteArray.empty] 9) :=
    (hg3.block w.heap.size (by simp) (fun e => by cases e; omega)).trans (heap_alloc_new w _)
  have c0 : w3.cell? ⟨w.heap.size, 0, none⟩ = some (.string ByteArray.empty) := by simp [World.cell?, hres]
  have f0 : w3.frozen? ⟨w.heap.size, 0, none⟩ = false := by simp [World.frozen?, hres]
  have HB3 := Lib.hid (And.intro hB3 (And.intro hg3 hres))
  clear hB3 hg3 hres
  go_wp2
  refine leaves_cons (f := 94) (args := #[.pointer (some ⟨w.heap.size, 0, none⟩)]) (by simp) (by simp [go_sem]) ?_
  refine (catch_idle ⟨w.heap.size, 0, none⟩ _).mono ?_
  rintro e u' w'' ⟨rfl, rfl, rfl⟩
  have c1 : (w3.setCell ⟨w.heap.size, 0, none⟩ (.string an)).cell? ⟨w.heap.size, 0, none⟩ = some (.string an) := World.cell?_setCell_same _ _ _ c0
  simp [Leaves, settle, results, Tryz.results27, go_sem, c1]
  obtain ⟨hB3, hg3, hr3⟩ := HB3.out
  have hsz := hg3.size
  have hs0 := hB3.below0.size
  have hsw : w.heap.size + 1 ≤ w3.heap.size := by simpa using hsz
  have hq : w0.heap.size ≤ w.heap.size := HK.out.2.2.2.2.2
  have hbl : Below w.heap.size w3 (w3.setCell ⟨w.heap.size, 0, none⟩ (.string an)) := (Below.refl _ w3).setCell (p := ⟨w.heap.size, 0, none⟩) (Nat.le_refl _) _
  refine ⟨hB3.keep (hbl.mono hq) fun k o hk _ ho => ?_, hg3.os, hg3.tape, hg3.output, by simp; omega, fun k hk hn => ?_⟩
  · rw [set_other]
    · exact hk
    · rintro rfl
      have hres' : w3.heap[w.heap.size]? = some o := hk
      rw [hres'] at hr3
      obtain rfl := Option.some.inj hr3
      rcases ho with ⟨_, _, e⟩ | ⟨_, e⟩ | ⟨_, e⟩ <;> cases e
  · rw [set_other (by show k ≠ w.heap.size; omega)]
    exact (hg3.block k (by simp; omega) hn).trans (Below.heap_alloc w _ k hk)
end Go.Proofs.YthdnpcpimggjnaaGreatDoor

namespace Go.Proofs.YthdnpcpimggjnaaGreatDoor
open Go.RowKit

def numTo (s : ByteArray) : Nat → Nat
  | 0 => 0
  | k + 1 => 10 * numTo s k + (byt s k - 48)
theorem num_dig : ∀ n : Fin 100, numTo (baOf (dig n.val)) (baOf (dig n.val)).size = n.val := by decide +kernel
theorem dig_size : ∀ n : Fin 100, 1 ≤ (baOf (dig n.val)).size ∧ (baOf (dig n.val)).size ≤ 2 := by decide +kernel
theorem dig_all : ∀ n : Fin 100, ∀ k : Fin 2, k.val < (baOf (dig n.val)).size → 48 ≤ byt (baOf (dig n.val)) k.val ∧ byt (baOf (dig n.val)) k.val ≤ 57 := by decide +kernel
theorem numTo_lt (s : ByteArray) (hd : ∀ k, k < s.size → 48 ≤ byt s k ∧ byt s k ≤ 57) : ∀ k, k ≤ s.size → k ≤ 2 → numTo s k ≤ 99 ∧ (k ≤ 1 → numTo s k ≤ 9)
  | 0, _, _ => ⟨by simp [numTo], fun _ => by simp [numTo]⟩
  | 1, h, _ => by
    have := hd 0 (by omega)
    simp only [numTo]
    omega
  | 2, h, _ => by
    have h0 := hd 0 (by omega)
    have h1 := hd 1 (by omega)
    simp only [numTo]
    omega
  | k + 3, _, h => by omega

set_option maxHeartbeats 2000000 in
theorem numberFrom_digits (s : ByteArray) (w : World) (h1 : 1 ≤ s.size) (h2 : s.size ≤ 2) (hd : ∀ k, k < s.size → 48 ≤ byt s k ∧ byt s k ≤ 57) :
    Calls Tryz.prog 208 #[.string s] w fun e w' => e = .returned (.tuple #[.int .i64 (numTo s s.size), .bool true]) ∧ w' = w := by
  have hn := numTo_lt s hd
  have HN := Lib.hid (And.intro hn hd)
  clear hn hd
  have g1 : ¬ ((s.size : Int) < 1) := by omega
  have g2 : ¬ ((2 : Int) < (s.size : Int)) := by omega
  go_enter Tryz.func208, Tryz.ntmps208
  go_wp2
  go_loopw [16, 4, 5] (fun i m _ wr => ∃ k : Nat, k ≤ s.size ∧ i = .int .i64 k ∧ m = .int .i64 (numTo s k) ∧ wr = w)
    (fun i _ _ _ => s.size - (intOf i).toNat)
  case atStart => exact ⟨0, Nat.zero_le _, rfl, rfl, rfl⟩
  case round =>
    obtain ⟨k, hk, rfl, rfl, rfl⟩ := hrel
    by_cases hlt : k < s.size
    · have hb := byt_at s k hlt
      have hxl := byt_lt s k
      obtain ⟨d1, d2⟩ := HN.out.2 k hlt
      have hnk := HN.out.1 k hk (by omega)
      have hn9 : numTo s k ≤ 9 := hnk.2 (by omega)
      have hsucc : numTo s (k + 1) = 10 * numTo s k + (byt s k - 48) := rfl
      obtain ⟨x, hx⟩ : ∃ x, byt s k = x := ⟨_, rfl⟩
      obtain ⟨m, hm⟩ : ∃ m, numTo s k = m := ⟨_, rfl⟩
      rw [hx] at hb hxl d1 d2 hsucc
      rw [hm] at hn9 hsucc ⊢
      have HS := Lib.hid hsucc
      clear hnk hx hm hsucc
      have e1 : ¬ ((x : Int) < 48) := by omega
      have e2 : ¬ ((57 : Int) < (x : Int)) := by omega
      have hi1 : ((k : Nat) : Int) < (s.size : Int) := by omega
      go_wp2
      refine ⟨⟨k + 1, by omega, by simp, ?_, trivial⟩, by simp [intOf]; omega⟩
      rw [HS.out]
      congr 1
      omega
    · obtain rfl : k = s.size := by omega
      go_wp2
      go_ret2
      exact ⟨rfl, rfl⟩
theorem numberFrom_dig (n : Nat) (hn : n < 100) (w : World) :
    Calls Tryz.prog 208 #[.string (baOf (dig n))] w fun e w' => e = .returned (.tuple #[.int .i64 n, .bool true]) ∧ w' = w := by
  have h := dig_size ⟨n, hn⟩
  have e := num_dig ⟨n, hn⟩
  have hd := dig_all ⟨n, hn⟩
  simp only at h e hd
  have := numberFrom_digits (baOf (dig n)) w h.1 h.2 (fun k hk => hd ⟨k, by omega⟩ hk)
  rw [e] at this
  exact this

/-! what ends the line if there is no value, where there is one -/
theorem orFail_list (ao : Option Addr) (n c : Nat) (w : World) : Calls Tryz.prog 178 #[.slice ao n c, .bool true] w fun e w' => e = .returned (.slice ao n c) ∧ w' = w := by
  go_enter Tryz.func178, Tryz.ntmps178
  go_wp2
  go_ret
  exact ⟨rfl, rfl⟩
theorem orFail_str (s : ByteArray) (w : World) : Calls Tryz.prog 131 #[.string s, .bool true] w fun e w' => e = .returned (.string s) ∧ w' = w := by
  go_enter Tryz.func131, Tryz.ntmps131
  go_wp2
  go_ret
  exact ⟨rfl, rfl⟩
theorem orFail_int (n : Int) (w : World) : Calls Tryz.prog 196 #[.int .i64 n, .bool true] w fun e w' => e = .returned (.int .i64 n) ∧ w' = w := by
  go_enter Tryz.func196, Tryz.ntmps196
  go_wp2
  go_ret
  exact ⟨rfl, rfl⟩
/-- a text, or a dash for none -/
def orDash (s : ByteArray) : ByteArray := if s.toList.isEmpty = true then ⟨#[45]⟩ else s
theorem textOrDash_any (s : ByteArray) (w : World) : Calls Tryz.prog 130 #[.string s] w fun e w' => e = .returned (.string (orDash s)) ∧ w' = w := by
  unfold orDash
  cases h : s.toList.isEmpty with
  | true =>
    go_enter Tryz.func130, Tryz.ntmps130
    go_wp2
    go_ret
    exact ⟨rfl, rfl⟩
  | false =>
    go_enter Tryz.func130, Tryz.ntmps130
    go_wp2
    go_ret
    exact ⟨rfl, rfl⟩
end Go.Proofs.YthdnpcpimggjnaaGreatDoor

namespace Go.Proofs.YthdnpcpimggjnaaGreatDoor
open Go.RowKit

theorem own_base {w : World} {a b : Nat} {e : TypeId} {size : Nat} {v : Value} {n : Nat} {xs : List Value} (h : w.ownsRow a e size v n xs) (hb : b ≤ a) : w.ownsRow b e size v n xs :=
  ⟨h.1, h.2.imp id fun ⟨g, cap, cur, e1, e2, e3⟩ => ⟨g, cap, cur, e1, Nat.le_trans hb e2, e3⟩⟩
theorem set_here {w : World} {q : Nat} {x y z : Value} {t : TypeId} (h : w.heap[q]? = some (.cells #[x, y, z] t)) (v : Value) : (w.setCell ⟨q, 0, none⟩ v).heap[q]? = some (.cells #[v, y, z] t) := by
  simp [World.setCell, Array.getElem?_modify, h]
set_option maxHeartbeats 1000000 in
theorem become_any (w0 w : World) (bw b1 b2 : Nat) (xs ys : List Int) (hB : Bench w0 w bw b1 b2 xs) (v : Value) (hv : w.ownsRow w0.heap.size 3 1 v ys.length (ys.map (Value.int .i64))) :
    Calls Tryz.prog 119 #[.pointer (some ⟨bw, 0, none⟩), v, .bool true] w fun e w' => e = .returned (.string (baOf [111, 107])) ∧ Bench w0 w' bw b1 b2 ys ∧ w.grownBy w' (some bw) := by
  obtain ⟨u, hbw, _⟩ := hB.here
  obtain ⟨ao, c, rfl, _⟩ := row_rd hv
  have c0 : w.cell? ⟨bw, 0, none⟩ = some u := by simp [World.cell?, hbw]
  have f0 : w.frozen? ⟨bw, 0, none⟩ = false := by simp [World.frozen?, hbw]
  have hset := set_here hbw (.slice ao ys.length c)
  have hg : w.grownBy (w.setCell ⟨bw, 0, none⟩ (.slice ao ys.length c)) (some bw) := ⟨rfl, rfl, rfl, by simp, fun k _ hn => set_other (fun e => hn (by rw [e]))⟩
  have hrow : (w.setCell ⟨bw, 0, none⟩ (.slice ao ys.length c)).ownsRow w0.heap.size 3 1 (.slice ao ys.length c) ys.length (ys.map (Value.int .i64)) := by
    refine hv.kept hg ?_
    rcases hv.2 with ⟨e, _⟩ | ⟨g, cap, cur, e, _, hgg, _⟩
    · injection e with e1 _ _
      subst e1
      exact .inl rfl
    · injection e with e1 _ _
      subst e1
      refine .inr fun e2 => ?_
      have : g = bw := by simpa [Value.ownBlock] using e2
      subst this
      rw [hbw] at hgg
      cases hgg
  have HB := Lib.hid (And.intro hB (And.intro hset (And.intro hg hrow)))
  clear hB hset hg hrow hv hbw
  go_enter Tryz.func119, Tryz.ntmps119
  go_wp2_with (go_at_call 178; refine (orFail_list ao ys.length c _).mono ?_)
  rintro e w1 ⟨rfl, rfl⟩
  go_wp2
  go_ret
  exact ⟨rfl, HB.out.1.next HB.out.2.2.1 ⟨_, HB.out.2.1, HB.out.2.2.2⟩, HB.out.2.2.1⟩
theorem numberText_any (n : Nat) (hn : n < 100) (w : World) : Calls Tryz.prog 135 #[.int .i64 n, .bool true] w fun e w' => e = .returned (.string (baOf (dig n))) ∧ w' = w := by
  have hd := Tryz.strconv_Itoa_small n hn w
  rw [dig_dec ⟨n, hn⟩] at hd
  have HD := Lib.hid hd
  clear hd
  go_enter Tryz.func135, Tryz.ntmps135
  go_wp2_with (go_at_call 196; refine (orFail_int n _).mono ?_; rintro e w1 ⟨rfl, rfl⟩)
  refine HD.out.mono ?_
  rintro e w1 ⟨rfl, rfl⟩
  go_wp2
  go_ret
  exact ⟨rfl, rfl⟩

/-! the functions behind words -/
theorem Bench.rd {w0 w : World} {bw b1 b2 : Nat} {xs : List Int} (h : Bench w0 w bw b1 b2 xs) : ∃ ao c, w.cell? ⟨bw, 0, none⟩ = some (.slice ao xs.length c) ∧ Rd w ao xs := by
  obtain ⟨v, hb, hr⟩ := h.here
  obtain ⟨ao, c, rfl, r⟩ := row_rd hr
  exact ⟨ao, c, by simp [World.cell?, hb], r⟩
set_option maxHeartbeats 1000000 in
theorem cmd_kinds (w0 : World) (bw b1 b2 : Nat) (xs : List Int) (hx : relIn xs = true) (hl : xs.length ≤ 1048576) (l : List UInt8) (hk : orDash (kindsOf xs) = baOf l) : CmdW w0 bw b1 b2 65 [] xs xs l := by
  intro w hB
  obtain ⟨ao, c, hc, r⟩ := hB.rd
  have hK := implKindAll_any ao c xs w hl r
  rw [hx] at hK
  have HK := Lib.hid (And.intro hK hB)
  have HL := Lib.hid hk
  clear hK hB r hx hk
  go_enter Tryz.func65, Tryz.ntmps65
  go_wp2_with (go_at_call 6; refine HK.out.1.mono ?_)
  rintro e w1 ⟨rfl, hb1⟩
  have HB1 := Lib.hid hb1
  clear hb1
  go_wp2_with (go_at_call 131; refine (orFail_str _ _).mono ?_)
  rintro e w2 ⟨rfl, rfl⟩
  go_wp2_with (go_at_call 130; refine (textOrDash_any _ _).mono ?_)
  rintro e w2 ⟨rfl, rfl⟩
  rw [HL.out]
  go_wp2
  go_ret
  exact ⟨rfl, HK.out.2.below HB1.out, Below.grownAny HB1.out _⟩
set_option maxHeartbeats 1000000 in
theorem cmd_turned (w0 : World) (bw b1 b2 : Nat) (xs : List Int) (hx : relIn xs = true) (hl : xs.length ≤ 1048576) : CmdW w0 bw b1 b2 56 [] xs (turnL xs) [111, 107] := by
  intro w hB
  obtain ⟨ao, c, hc, r⟩ := hB.rd
  have hK := implRelTurned_any ao c xs w hl r
  rw [hx] at hK
  have HK := Lib.hid (And.intro hK hB)
  clear hK hB r hx
  go_enter Tryz.func56, Tryz.ntmps56
  go_wp2_with (go_at_call 120; refine HK.out.1.mono ?_)
  rintro e w1 ⟨v, rfl, hv, hb1⟩
  have hs0 := HK.out.2.below0.size
  have HB1 := Lib.hid (And.intro hb1 (own_base hv hs0))
  clear hb1 hv
  go_wp2_with (go_at_call 119; refine (become_any w0 _ bw b1 b2 xs (turnL xs) (HK.out.2.below HB1.out.1) v HB1.out.2).mono ?_)
  rintro e w2 ⟨rfl, hB2, hg2⟩
  have HB2 := Lib.hid (And.intro hB2 hg2)
  clear hB2 hg2
  go_wp2
  go_ret
  exact ⟨rfl, HB2.out.1, grown_trans (Below.grownAny HB1.out.1 _) HB2.out.2⟩
end Go.Proofs.YthdnpcpimggjnaaGreatDoor
