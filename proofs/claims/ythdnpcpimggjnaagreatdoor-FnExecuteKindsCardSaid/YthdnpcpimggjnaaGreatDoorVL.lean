/-
  The lines of the two laws on Execute, answered; the scripts that they make.
-/
import Derived.Test.YthdnpcpimggjnaaGreatDoorVI
import Derived.Test.YthdnpcpimggjnaaGreatDoorHK
import Derived.Deep.RegionHeldLaw
namespace Go.Proofs.YthdnpcpimggjnaaGreatDoor
open Go.RowKit

theorem byte_nat (k : Nat) (hk : k < 10) : ((48 + k).toUInt8.toNat : Int) = 48 + (k : Int) := by
  have h : ∀ k : Fin 10, ((48 + k.val).toUInt8.toNat : Int) = 48 + (k.val : Int) := by decide
  exact h ⟨k, hk⟩
set_option maxRecDepth 100000 in
/-- one byte of the call's own, as a string -/
theorem byte_str (k : Nat) (hk : k < 10) (W : World) (q : Nat) (h : W.cell? ⟨q, 0, none⟩ = some (.int .u8 (48 + (k : Int)))) :
    Sem.run Tryz.prog (convert 22 9 (.slice (some ⟨q, 0, none⟩) 1 1)) W = .ok (.string (baOf [(48 + k).toUInt8])) W := by
  rw [run_convert_bytes_string W _ _ _ _ _ _ Tryz.underlying22 Tryz.underlying5 Tryz.underlying9]
  have hr := run_bytesToString (P := Tryz.prog) W ⟨q, 0, none⟩ 1 1 [48 + (k : Int)] (by
    have := run_loadCells_list (P := Tryz.prog) (w := W) ⟨q, 0, none⟩ [.int .u8 (48 + (k : Int))] (fun j v hj => by
      match j, hj with
      | 0, hj => simp at hj; subst hj; simpa [Addr.add] using h)
    exact this)
  rw [hr]
  have e : (48 + (k : Int)) = ((48 + k).toUInt8.toNat : Int) := (byte_nat k hk).symm
  rw [e]
  have := str_fold [(48 + k).toUInt8] []
  rw [List.nil_append] at this
  show _ = Result.ok (Value.string (strOf [(48 + k).toUInt8])) W
  rw [← this]
  rfl
theorem bel_a {w w1 : World} {o : Obj} (hb : Below (w.alloc o).drew.heap.size (w.alloc o).drew w1) : Below w.heap.size w w1 :=
  (below_one w o).drew.trans (hb.mono (by simp))
theorem bel_b {w w1 : World} (hb : Below w.drew.heap.size w.drew w1) (o : Obj) : Below w.heap.size w (w1.alloc o) :=
  (((Below.refl _ w).drew).trans hb).alloc hb.size o
theorem byte_kept {w w1 : World} {v : Value} {t : TypeId} (hb : Below (w.alloc (.cells #[v] t)).drew.heap.size (w.alloc (.cells #[v] t)).drew w1) : w1.cell? ⟨w.heap.size, 0, none⟩ = some v :=
  (hb.cell (p := ⟨w.heap.size, 0, none⟩) (by simp)).trans (World.cell?_alloc_at #[v] t _ 0 rfl)
set_option maxRecDepth 100000 in
theorem digits_small (n : Nat) (hn : n < 10) (w : World) : Calls Tryz.prog 11 #[.int .i64 n] w fun e w' => e = .returned (.string (baOf (dig n))) ∧ Below w.heap.size w w' := by
  have g1 : (n : Int) < 10 := by omega
  have g2 : ¬ ((n : Int) < 0) := by omega
  have hcv := byte_str n hn (w.alloc (.cells #[.int .u8 (48 + (n : Int))] 5)) w.heap.size (World.cell?_alloc_at _ _ _ _ rfl)
  have hd : dig n = [(48 + n).toUInt8] := by unfold dig; rw [if_pos hn]
  rw [hd]
  go_enter Tryz.func11, Tryz.ntmps11
  go_wp2
  go_ret
  exact ⟨rfl, below_one _ _⟩
set_option maxRecDepth 100000 in
set_option maxHeartbeats 2000000 in
theorem digits_any (n : Nat) (hn : n < 100) (w : World) : Calls Tryz.prog 11 #[.int .i64 n] w fun e w' => e = .returned (.string (baOf (dig n))) ∧ Below w.heap.size w w' := by
  by_cases hlt : n < 10
  · exact digits_small n hlt w
  obtain ⟨p, hp⟩ : ∃ p, n / 10 = p := ⟨_, rfl⟩
  obtain ⟨q, hq⟩ : ∃ q, n % 10 = q := ⟨_, rfl⟩
  have hp10 : p < 10 := by omega
  have hq10 : q < 10 := by omega
  have g1 : ¬ ((n : Int) < 10) := by omega
  have e1 : ((n : Int)).tdiv 10 = (p : Int) := by rw [Int.tdiv_eq_ediv_of_nonneg (by omega)]; omega
  have e2 : ((n : Int)).tmod 10 = (q : Int) := by rw [Int.tmod_eq_emod_of_nonneg (by omega)]; omega
  have hw1 : IntKind.i64.wrap (p : Int) = p := by simp [IntKind.wrap_i64]; omega
  have hw2 : IntKind.i64.wrap (48 + (q : Int)) = 48 + q := by simp [IntKind.wrap_i64]; omega
  have hw3 : IntKind.u8.wrap (48 + (q : Int)) = 48 + q := by rw [IntKind.wrap_u8]; omega
  have hD := fun w => digits_small p hp10 w
  have hd : dig n = [(48 + p).toUInt8, (48 + q).toUInt8] := by unfold dig; rw [if_neg hlt, hp, hq]
  have hdp : dig p = [(48 + p).toUInt8] := by unfold dig; rw [if_pos hp10]
  rw [hdp] at hD
  rw [hd]
  have hcv := fun W r h => byte_str q hq10 W r h
  obtain ⟨sp, hsp⟩ : ∃ s, baOf [(48 + p).toUInt8] = s := ⟨_, rfl⟩
  obtain ⟨sq, hsq⟩ : ∃ s, baOf [(48 + q).toUInt8] = s := ⟨_, rfl⟩
  obtain ⟨sr, hsr⟩ : ∃ s, baOf [(48 + p).toUInt8, (48 + q).toUInt8] = s := ⟨_, rfl⟩
  have happ : sp ++ sq = sr := by rw [← hsp, ← hsq, ← hsr]; rfl
  have hsz : ¬ 9223372036854775807 < sp.size + sq.size := by rw [← hsp, ← hsq, ba_size, ba_size]; simp
  rw [hsp] at hD
  rw [hsq] at hcv
  rw [hsr]
  have HD := Lib.hid hD
  have HP := Lib.hid happ
  clear hD hd hdp hp hq happ hsp hsq hsr
  go_enter Tryz.func11, Tryz.ntmps11
  go_wp2
  go_region_held_law (fun _ => True) (trivial) (first
    | (go_at_call 11; (with_reducible refine (HD.out _).mono ?_); rintro e w1 ⟨rfl, hb1⟩; first | have c1 := byte_kept hb1 | skip))
  all_goals
    go_wp2
    go_ret
    exact ⟨by rw [HP.out]; rfl, by first | exact bel_a hb1 | exact bel_b hb1 _⟩
end Go.Proofs.YthdnpcpimggjnaaGreatDoor

namespace Go.Proofs.YthdnpcpimggjnaaGreatDoor
open Go.RowKit

theorem joinC_snoc (c : UInt8) (p : List UInt8) : ∀ ps : List (List UInt8), ps ≠ [] → joinC c (ps ++ [p]) = joinC c ps ++ c :: p
  | [], h => absurd rfl h
  | [q], _ => rfl
  | q :: r :: l, _ => by
    have ih := joinC_snoc c p (r :: l) (by simp)
    simp only [List.cons_append] at ih ⊢
    simp only [joinC, ih]
    simp
def spTo (ns : List Nat) (k : Nat) : List UInt8 := joinC 32 ((ns.take k).map dig)
theorem spTo_len (ns : List Nat) (k : Nat) (hlt : ∀ n ∈ ns, n < 100) : (spTo ns k).length ≤ 3 * ns.length := by
  have := join_len 32 ((ns.take k).map dig) (by
    intro p hp
    obtain ⟨n, hn, rfl⟩ := List.mem_map.1 hp
    have := dig_len ⟨n, hlt n (List.mem_of_mem_take hn)⟩
    simp only at this
    omega)
  unfold spTo
  have h2 := Nat.min_le_right k ns.length
  simp only [List.length_map, List.length_take] at this
  omega
theorem spTo_one (ns : List Nat) (n : Nat) (h : ns[0]? = some n) : spTo ns 1 = dig n := by
  cases ns with
  | nil => cases h
  | cons m l =>
    simp at h
    subst h
    simp [spTo, joinC]
theorem spTo_next (ns : List Nat) (k n : Nat) (h : ns[k + 1]? = some n) : spTo ns (k + 2) = spTo ns (k + 1) ++ 32 :: dig n := by
  unfold spTo
  rw [List.take_add_one, h]
  simp only [Option.toList_some, List.map_append, List.map_cons, List.map_nil]
  refine joinC_snoc 32 (dig n) _ ?_
  have hlt := (List.getElem?_eq_some_iff.1 h).1
  intro e
  have h3 : 0 < ((ns.take (k + 1)).map dig).length := by rw [List.length_map, List.length_take]; omega
  rw [e] at h3
  exact absurd h3 (by decide)

set_option maxRecDepth 100000 in
set_option maxHeartbeats 2000000 in
theorem spaced_any (ao : Option Addr) (ca : Nat) (ns : List Nat) (w : World) (hl : ns.length ≤ 1000) (hlt : ∀ n ∈ ns, n < 100) (hr : Rd w ao (ns.map fun (n : Nat) => (n : Int))) :
    Calls Tryz.prog 10 #[.slice ao ns.length ca] w fun e w' => e = .returned (.string (baOf (joinC 32 (ns.map dig)))) ∧ Below w.heap.size w w' := by
  have hall : joinC 32 (ns.map dig) = spTo ns ns.length := by unfold spTo; rw [List.take_length]
  rw [hall]
  have HK := Lib.hid (And.intro hlt hr)
  clear hlt hr hall
  go_enter Tryz.func10, Tryz.ntmps10
  go_wp2
  go_loopw [4, 3] (fun i s wr => ∃ k : Nat, k ≤ ns.length ∧ i = .int .i64 k ∧ s = .string (baOf (spTo ns k)) ∧ Below w.heap.size w wr)
    (fun i _ _ => ns.length - (intOf i).toNat)
  case atStart => exact ⟨0, Nat.zero_le _, rfl, rfl, Below.refl _ _⟩
  case round =>
    obtain ⟨k, hk, rfl, rfl, hB⟩ := hrel
    by_cases hkl : k < ns.length
    · obtain ⟨n, hn⟩ : ∃ n, ns[k]? = some n := ⟨_, List.getElem?_eq_getElem hkl⟩
      have hn100 := HK.out.1 n (List.mem_of_getElem? hn)
      obtain ⟨b, off, rfl, hbl, hc0⟩ := HK.out.2 k n (by simp [hn])
      have hc : wr.cell? ⟨b, off + k, none⟩ = some (.int .i64 n) := (hB.cell (p := ⟨b, off + k, none⟩) hbl).trans hc0
      have hD := fun w => digits_any n hn100 w
      have hi1 : ((k : Nat) : Int) < (ns.length : Int) := by omega
      have hlen := spTo_len ns k HK.out.1
      have hdl := dig_len ⟨n, hn100⟩
      simp only at hdl
      have hs1 : (baOf (spTo ns k)).size ≤ 3000 := by rw [ba_size]; omega
      have hs2 : (baOf (dig n)).size ≤ 2 := by rw [ba_size]; omega
      cases k with
      | zero =>
        have hnx := spTo_one ns n hn
        rw [Nat.add_zero] at hc
        rw [show spTo ns 0 = [] from rfl] at hs1 ⊢
        obtain ⟨d, hd⟩ : ∃ d, baOf (dig n) = d := ⟨_, rfl⟩
        rw [hd] at hD hs2
        have e1 : baOf [] ++ d = baOf (spTo ns 1) := by rw [hnx, hd]; exact ByteArray.empty_append
        have HD := Lib.hid (And.intro hD e1)
        have q1 : ¬ ((9223372036854775807 : Int) < ((baOf []).size : Int) + (d.size : Int)) := by omega
        clear hD hnx hd e1 hdl hlen
        go_wp2_with (go_at_call 11; refine (HD.out.1 _).mono ?_; rintro e w1 ⟨rfl, hb1⟩)
        have hB1 := hB.trans (hb1.mono hB.size)
        clear hb1 hB
        go_wp2
        refine ⟨⟨1, by omega, rfl, by rw [HD.out.2], hB1⟩, by simp [intOf]; omega⟩
      | succ k =>
        have hnx := spTo_next ns k n hn
        obtain ⟨d, hd⟩ : ∃ d, baOf (dig n) = d := ⟨_, rfl⟩
        obtain ⟨s, hs⟩ : ∃ s, baOf (spTo ns (k + 1)) = s := ⟨_, rfl⟩
        have e1 : s ++ ⟨#[32]⟩ ++ d = baOf (spTo ns (k + 2)) := by
          rw [hnx, ← hd, ← hs]
          apply ByteArray.ext
          simp [baOf]
        rw [hd] at hD hs2
        rw [hs] at hs1 ⊢
        have HD := Lib.hid (And.intro hD e1)
        have q1 : ¬ ((9223372036854775807 : Int) < (s.size : Int) + 1) := by omega
        have q2 : ¬ ((9223372036854775807 : Int) < (s.size : Int) + 1 + (d.size : Int)) := by omega
        clear hD hnx hd hs e1 hdl hlen
        go_wp2_with (go_at_call 11; refine (HD.out.1 _).mono ?_; rintro e w1 ⟨rfl, hb1⟩)
        have hB1 := hB.trans (hb1.mono hB.size)
        clear hb1 hB
        go_wp2
        refine ⟨⟨k + 2, by omega, by simp; omega, by rw [HD.out.2], hB1⟩, by simp [intOf]; omega⟩
    · obtain rfl : k = ns.length := by omega
      go_wp2
      go_ret
      exact ⟨rfl, hB⟩
end Go.Proofs.YthdnpcpimggjnaaGreatDoor

namespace Go.Proofs.YthdnpcpimggjnaaGreatDoor
open Go.RowKit

theorem nats_of {a : List Int} (hx : relIn a = true) : ∃ ns : List Nat, a = ns.map (fun (n : Nat) => (n : Int)) ∧ (∀ n ∈ ns, n < 100) ∧ ns ≠ [] ∧ ns.length ≤ 4 := by
  have R := Rl.of hx
  have hb : ∀ x ∈ a, 0 ≤ x ∧ x < 100 := by
    intro x hx
    obtain ⟨i, hi, rfl⟩ := List.getElem_of_mem hx
    obtain ⟨y, hy, _⟩ := R.row i
    have e : rowAt a i = a[i] := by unfold rowAt; rw [List.getD_eq_getElem?_getD, List.getElem?_eq_getElem hi]; rfl
    rw [e] at hy
    have := y.isLt
    omega
  refine ⟨a.map Int.toNat, ?_, ?_, ?_, ?_⟩
  · rw [List.map_map]
    conv => lhs; rw [← List.map_id a]
    refine List.map_congr_left fun x hx => ?_
    have := (hb x hx).1
    simp
    omega
  · intro n hn
    obtain ⟨x, hx, rfl⟩ := List.mem_map.1 hn
    have := hb x hx
    omega
  · intro e
    have := R.one
    rw [List.map_eq_nil_iff] at e
    rw [e] at this
    simp at this
  · have := R.four
    simpa using this
def rowsW : List UInt8 := [114, 111, 119, 115]
def kindsW : List UInt8 := [107, 105, 110, 100, 115]
def rankW : List UInt8 := [114, 97, 110, 107]
def turnedW : List UInt8 := [116, 117, 114, 110, 101, 100]
theorem cfw_rows (args : Array Value) (w : World) : Sem.run Tryz.prog (callFunc 77 args) w = .ok (.enter 77 args) w := by kernel_rfl
theorem cfw_kinds (args : Array Value) (w : World) : Sem.run Tryz.prog (callFunc 65 args) w = .ok (.enter 65 args) w := by kernel_rfl
theorem cfw_rank (args : Array Value) (w : World) : Sem.run Tryz.prog (callFunc 71 args) w = .ok (.enter 71 args) w := by kernel_rfl
theorem cfw_turned (args : Array Value) (w : World) : Sem.run Tryz.prog (callFunc 56 args) w = .ok (.enter 56 args) w := by kernel_rfl
theorem find_rows : tabFind (baOf rowsW) restL = some 77 := by decide +kernel
theorem find_kinds : tabFind (baOf kindsW) aloneL = some 65 := by decide +kernel
theorem find_rank : tabFind (baOf rankW) aloneL = some 71 := by decide +kernel
theorem find_turned : tabFind (baOf turnedW) aloneL = some 56 := by decide +kernel
theorem sp_len (ns : List Nat) (hlt : ∀ n ∈ ns, n < 100) : (joinC 32 (ns.map dig)).length ≤ 3 * ns.length := by
  have := spTo_len ns ns.length hlt
  unfold spTo at this
  rwa [List.take_length] at this
theorem ans_rows (ns : List Nat) (xs : List Int) (h0 : ns ≠ []) (hlt : ∀ n ∈ ns, n < 100) (hl : ns.length ≤ 4) (hr : relIn (ns.map fun (n : Nat) => (n : Int)) = true) :
    Answers (rowsW ++ 32 :: joinC 32 (ns.map dig)) xs (ns.map fun (n : Nat) => (n : Int)) [111, 107] := fun w0 w bw b1 b2 hB =>
  answerTo_rest w0 w bw b1 b2 _ xs _ rowsW _ [111, 107] hB (by decide) find_rows cfw_rows (by
    rw [ba_size]
    have := sp_len ns hlt
    simp [rowsW]
    omega) (cmd_rows w0 bw b1 b2 xs ns h0 hlt (by omega) hr)
theorem ans_kinds (xs : List Int) (hx : relIn xs = true) (l : List UInt8) (hk : orDash (kindsOf xs) = baOf l) : Answers kindsW xs xs l := fun w0 w bw b1 b2 hB =>
  answerTo_alone w0 w bw b1 b2 _ xs _ kindsW l hB (by decide) find_kinds cfw_kinds (by rw [ba_size]; simp [kindsW]) (cmd_kinds w0 bw b1 b2 xs hx (by have := (Rl.of hx).four; omega) l hk)
theorem ans_turned (xs : List Int) (hx : relIn xs = true) : Answers turnedW xs (turnL xs) [111, 107] := fun w0 w bw b1 b2 hB =>
  answerTo_alone w0 w bw b1 b2 _ xs _ turnedW _ hB (by decide) find_turned cfw_turned (by rw [ba_size]; simp [turnedW]) (cmd_turned w0 bw b1 b2 xs hx (by have := (Rl.of hx).four; omega))
theorem join_no10 (ns : List Nat) (hlt : ∀ n ∈ ns, n < 100) : (10 : UInt8) ∉ joinC 32 (ns.map dig) := by
  have key : ∀ ps : List (List UInt8), (∀ p ∈ ps, (10 : UInt8) ∉ p) → (10 : UInt8) ∉ joinC 32 ps := by
    intro ps
    induction ps with
    | nil => intro _; simp [joinC]
    | cons p l ih =>
      intro h
      cases l with
      | nil => exact h p (by simp)
      | cons q l =>
        have h1 := ih (fun x hx => h x (by simp at hx ⊢; exact .inr hx))
        have h2 := h p (by simp)
        simp only [joinC, List.mem_append, List.mem_cons, not_or]
        exact ⟨h2, by decide, h1⟩
  refine key _ fun p hp => ?_
  obtain ⟨n, hn, rfl⟩ := List.mem_map.1 hp
  exact (dig_no ⟨n, hlt n hn⟩).2

/-- Execute on the lines of FnExecuteKinds -/
theorem exec_kinds (ns : List Nat) (l : List UInt8) (n : Nat) (w : World) (hm : MaxAt w) (hlow : 0 < w.heap.size) (h0 : ns ≠ []) (hlt : ∀ n ∈ ns, n < 100) (hl : ns.length ≤ 4)
    (hr : relIn (ns.map fun (n : Nat) => (n : Int)) = true) (hk : orDash (kindsOf (ns.map fun (n : Nat) => (n : Int))) = baOf l) (hll : l.length ≤ 1048576) (hn : sizeL (ns.map fun (n : Nat) => (n : Int)) = n) (hn100 : n < 100) :
    Calls Tryz.prog 9 #[.string (⟨#[114, 111, 119, 115, 32]⟩ ++ baOf (joinC 32 (ns.map dig)) ++ ⟨#[10, 107, 105, 110, 100, 115, 10]⟩)] w fun e w' =>
      e = .returned (.string (⟨#[111, 107, 10]⟩ ++ baOf l ++ ⟨#[10, 112, 97, 105, 114, 115, 32]⟩ ++ baOf (dig n) ++ ⟨#[10]⟩)) ∧ Below w.heap.size w w' := by
  have hsp := sp_len ns hlt
  have e1 : (⟨#[114, 111, 119, 115, 32]⟩ : ByteArray) ++ baOf (joinC 32 (ns.map dig)) ++ ⟨#[10, 107, 105, 110, 100, 115, 10]⟩ = baOf (joinC 10 ([rowsW ++ 32 :: joinC 32 (ns.map dig), kindsW] ++ [[]])) := by
    apply ByteArray.ext
    simp [baOf, joinC, rowsW, kindsW]
  have e2 : (⟨#[111, 107, 10]⟩ : ByteArray) ++ baOf l ++ ⟨#[10, 112, 97, 105, 114, 115, 32]⟩ ++ baOf (dig n) ++ ⟨#[10]⟩ = baOf (outTo (fun i => if i = 0 then [111, 107] else l) 2 ++ [112, 97, 105, 114, 115, 32] ++ dig n ++ [10]) := by
    apply ByteArray.ext
    simp [baOf, outTo]
  rw [e1, e2]
  refine execute_any w [rowsW ++ 32 :: joinC 32 (ns.map dig), kindsW] (fun i => if i = 0 then [0, 0, 0] else ns.map fun (n : Nat) => (n : Int)) (fun i => if i = 0 then [111, 107] else l) n hm hlow ?_ ?_ (by simp) rfl ?_ hr hn hn100
  · intro p hp
    rcases List.mem_cons.1 hp with rfl | hp
    · simp only [List.mem_append, List.mem_cons, not_or]
      exact ⟨by decide, by decide, join_no10 ns hlt⟩
    · obtain rfl := List.mem_singleton.1 hp
      decide
  · simp [joinC, rowsW, kindsW]
    omega
  · intro i p hp
    match i, hp with
    | 0, hp => obtain rfl := Option.some.inj hp; exact ⟨ans_rows ns _ h0 hlt hl hr, by simp⟩
    | 1, hp => obtain rfl := Option.some.inj hp; exact ⟨ans_kinds _ hr l hk, hll⟩
    | i + 2, hp => simp at hp
theorem MaxAt.below {w w' : World} (h : MaxAt w) (hb : Below w.heap.size w w') (hl : 0 < w.heap.size) : MaxAt w' := by
  obtain ⟨m, hm⟩ := h
  exact ⟨m, (hb.cell (p := ⟨0, 0, none⟩) hl).trans hm⟩
theorem sizeL_nat {a : List Int} (hx : relIn a = true) : ∃ n : Nat, sizeL a = n ∧ n < 100 := by
  have h1 := sizeL_le a
  have h2 := (Rl.of hx).four
  exact ⟨(sizeL a).toNat, by omega, by omega⟩
end Go.Proofs.YthdnpcpimggjnaaGreatDoor
