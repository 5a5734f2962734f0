/-
  Execute on a script of complete lines, each of which is answered: what is printed.
-/
import Derived.Test.YthdnpcpimggjnaaGreatDoorVG
import Derived.Test.YthdnpcpimggjnaaGreatDoorAA
import Derived.Lib.FrozenHead2
import Derived.Lib.OthersKept
import Derived.Shelf.Strings.Builder1
import Derived.Test.YthdnpcpimggjnaaGreatDoorT
namespace Go.Proofs.YthdnpcpimggjnaaGreatDoor
open Go.RowKit

def natV (n : Nat) : Value := .int .i64 n
theorem join_len (c : UInt8) : ∀ ps : List (List UInt8), (∀ p ∈ ps, p.length ≤ 2) → (joinC c ps).length ≤ 3 * ps.length
  | [], _ => Nat.zero_le _
  | [p], h => by have := h p (by simp); simp [joinC]; omega
  | p :: q :: l, h => by
    have ih := join_len c (q :: l) (fun x hx => h x (by simp at hx ⊢; exact .inr hx))
    have := h p (by simp)
    simp only [joinC, List.length_append, List.length_cons] at ih ⊢
    omega
theorem not_row {w : World} {base q : Nat} {e t : TypeId} {size : Nat} {v : Value} {n : Nat} {xs : List Value} {cs : Array Value} (ho : w.ownsRow base e size v n xs) (hq : w.heap[q]? = some (.cells cs t)) (hne : t ≠ e) : some q ≠ v.ownBlock := by
  rcases ho.2 with ⟨rfl, _⟩ | ⟨g, cap, cur, rfl, _, hg, _⟩
  · simp [Value.ownBlock]
  · intro h
    have : q = g := by simpa [Value.ownBlock] using h
    subst this
    rw [hq] at hg
    cases hg
    exact hne rfl
theorem own_bel {w w' : World} {base : Nat} {e : TypeId} {size : Nat} {v : Value} {n : Nat} {xs : List Value} (ho : w.ownsRow base e size v n xs) (hb : Below w.heap.size w w') : w'.ownsRow base e size v n xs := by
  refine ho.kept (Below.grownAny hb none) ?_
  cases v.ownBlock with
  | none => exact .inl rfl
  | some k => exact .inr (by simp)
theorem ba_size (l : List UInt8) : (baOf l).size = l.length := by simp [baOf, ByteArray.size]

set_option maxHeartbeats 2000000 in
set_option maxRecDepth 10000 in
theorem numbers_any (ns : List Nat) (w : World) (h0 : ns ≠ []) (hlt : ∀ n ∈ ns, n < 100) (hl : ns.length ≤ 1000) (hm : MaxAt w) (hlow : 0 < w.heap.size) :
    Calls Tryz.prog 146 #[.string (baOf (joinC 32 (ns.map dig)))] w fun e w' => ∃ v, e = .returned v ∧ w'.ownsRow w.heap.size 3 1 v ns.length (ns.map natV) ∧ Below w.heap.size w w' := by
  obtain ⟨i0, hi, hz0, hz1, hz2⟩ := info_parts Tryz.info3
  obtain ⟨m, hm⟩ := hm
  have hb0 := below_one w (.cells #[] 3)
  have hm1 : (w.alloc (.cells #[] 3)).cell? ⟨0, 0, none⟩ = some (.int .i64 m) := (hb0.cell (p := ⟨0, 0, none⟩) hlow).trans hm
  have hpl : ∀ p ∈ ns.map dig, p.length ≤ 2 := by
    intro p hp
    obtain ⟨n, hn, rfl⟩ := List.mem_map.1 hp
    have := dig_len ⟨n, hlt n hn⟩
    simp only at this
    omega
  have hsz : (baOf (joinC 32 (ns.map dig))).size < 4294967281 := by
    rw [ba_size]
    have := join_len 32 (ns.map dig) hpl
    simp at this
    omega
  have HS := Tryz.strings_Split (baOf (joinC 32 (ns.map dig))) ⟨#[32]⟩ m (w.alloc (.cells #[] 3)) hsz hm1 (by decide)
  obtain ⟨e1, e2⟩ := split_join 32 (ns.map dig) (by simpa using h0) (by
    intro p hp
    obtain ⟨n, hn, rfl⟩ := List.mem_map.1 hp
    exact (dig_no ⟨n, hlt n hn⟩).1)
  rw [e1, e2] at HS
  simp only [List.map_map, List.length_map, World.size_alloc] at HS
  obtain ⟨st, hst⟩ : ∃ st, baOf (joinC 32 (ns.map dig)) = st := ⟨_, rfl⟩
  rw [hst] at HS ⊢
  obtain ⟨W2, hW2⟩ : ∃ W2, (w.alloc (.cells #[] 3)).alloc (.cells ((ns.map (Value.string ∘ baOf ∘ dig)).toArray) 9) = W2 := ⟨_, rfl⟩
  have hp2 : W2.heap[w.heap.size + 1]? = some (.cells ((ns.map (Value.string ∘ baOf ∘ dig)).toArray) 9) := by
    rw [← hW2]
    have := heap_alloc_new (w.alloc (.cells #[] 3)) (.cells ((ns.map (Value.string ∘ baOf ∘ dig)).toArray) 9)
    simpa using this
  have hB2 : Below w.heap.size w W2 := by rw [← hW2]; exact below_two _ _ _
  have hr2 : W2.ownsRow w.heap.size 3 1 (.slice (some ⟨w.heap.size, 0, none⟩) 0 0) 0 [] := by rw [← hW2]; exact (row_lit0T _ w).alloc _
  have hs2 : W2.heap.size = w.heap.size + 2 := by rw [← hW2]; simp
  rw [hW2] at HS
  have HK := Lib.hid (And.intro HS (And.intro hp2 (And.intro hB2 (And.intro hr2 hlt))))
  have HZ := Lib.hid hs2
  clear HS hp2 hB2 hr2 hlt hm1 hm hb0 hpl hsz e1 e2 hst hW2 hs2 hlow
  go_enter Tryz.func146, Tryz.ntmps146
  go_wp2_with (go_at_call 25; refine HK.out.1.mono ?_; rintro e w1 ⟨rfl, rfl⟩)
  go_wp2
  go_loopw [10, 3, 5] (fun i v _ wr => ∃ k : Nat, k ≤ ns.length ∧ i = .int .i64 k ∧ wr.ownsRow w.heap.size 3 1 v k ((ns.take k).map natV) ∧ Below w.heap.size w wr ∧ wr.heap[w.heap.size + 1]? = some (.cells ((ns.map (Value.string ∘ baOf ∘ dig)).toArray) 9))
    (fun i _ _ _ => ns.length - (intOf i).toNat)
  case atStart => exact ⟨0, Nat.zero_le _, rfl, HK.out.2.2.2.1, HK.out.2.2.1, HK.out.2.1⟩
  case round =>
    obtain ⟨k, hk, rfl, ho, hB, hp⟩ := hrel
    by_cases hlt : k < ns.length
    · obtain ⟨n, hn⟩ : ∃ n, ns[k]? = some n := ⟨_, List.getElem?_eq_getElem hlt⟩
      have hn100 := HK.out.2.2.2.2 n (List.mem_of_getElem? hn)
      have hc : wr.cell? ⟨w.heap.size + 1, k, none⟩ = some (.string (baOf (dig n))) := by simp [World.cell?, hp, hn]
      have htk : (ns.take (k + 1)).map natV = (ns.take k).map natV ++ [.int .i64 n] := by
        rw [List.take_add_one, hn]
        simp [natV]
      have hnd := fun w => numberFrom_dig n hn100 w
      obtain ⟨ds, hds⟩ : ∃ ds, baOf (dig n) = ds := ⟨_, rfl⟩
      rw [hds] at hc hnd
      have HN := Lib.hid (And.intro hnd (And.intro htk hp))
      have hi1 : ((k : Nat) : Int) < (ns.length : Int) := by omega
      clear hnd htk hds hn
      go_wp2_with (first
        | (go_at_call 208; refine (HN.out.1 _).mono ?_; rintro e w1 ⟨rfl, hw⟩; rw [hw]; clear hw w1)
        | (go_at_call 196; refine (orFail_int n _).mono ?_; rintro e w1 ⟨rfl, hw⟩; rw [hw]; clear hw w1)
        | (at_builtin; refine wpList_append_own _ rfl (.tmp 14) (.tmp 20) 23 rfl w.heap.size 3 i0 (.int .i64 0) 1 8 Tryz.underlying23 hi hz0 hz1 hz2 rfl (by decide) _ _ _ rfl (ho.alloc _) ⟨wr.heap.size, 0, none⟩ 1 1 [_] rfl rfl (cell_one_new _ _ _) (by simp [Value.oneCell']) (by unfold maxLen; omega) (by omega) (by have := hB.size; simp; omega) ?_; intro v' w1 hown' hgrow _))
      refine ⟨⟨k + 1, by omega, by simp, by rw [HN.out.2.1]; exact hown', own_step' ho hB hB.size _ hgrow, ?_⟩, by simp [intOf]; omega⟩
      have hlt2 := (Array.getElem?_eq_some_iff.1 hp).1
      exact (hgrow.block _ (by simp; omega) (not_row ho hp (by decide))).trans ((Below.heap_alloc wr _ _ hlt2).trans hp)
    · obtain rfl : k = ns.length := by omega
      go_wp2
      go_ret
      refine ⟨_, rfl, ?_, hB⟩
      simpa using ho
set_option maxHeartbeats 1000000 in
theorem cmd_rows (w0 : World) (bw b1 b2 : Nat) (xs : List Int) (ns : List Nat) (h0 : ns ≠ []) (hlt : ∀ n ∈ ns, n < 100) (hl : ns.length ≤ 1000) (hr : relIn (ns.map fun (n : Nat) => (n : Int)) = true) :
    CmdW w0 bw b1 b2 77 [.string (baOf (joinC 32 (ns.map dig)))] xs (ns.map fun (n : Nat) => (n : Int)) [111, 107] := by
  intro w hB
  have hs0 := hB.below0.size
  have hlow := hB.low
  have hN := numbers_any ns w h0 hlt hl hB.maxlen (by omega)
  obtain ⟨st, hst⟩ : ∃ st, baOf (joinC 32 (ns.map dig)) = st := ⟨_, rfl⟩
  rw [hst] at hN ⊢
  obtain ⟨ys, hys⟩ : ∃ ys, (ns.map fun (n : Nat) => (n : Int)) = ys := ⟨_, rfl⟩
  have e1 : ns.map natV = ys.map (Value.int .i64) := by rw [← hys]; simp [natV, Function.comp_def]
  have e2 : ns.length = ys.length := by rw [← hys]; simp
  rw [hys] at hr ⊢
  rw [e1, e2] at hN
  rw [e2] at hl
  have HK := Lib.hid (And.intro hN (And.intro hB (And.intro hr (And.intro hl hs0))))
  clear hN hB hr hl hst hys e1 e2 h0 hlt hlow hs0
  go_enter Tryz.func77, Tryz.ntmps77
  go_wp2_with (go_at_call 146; refine HK.out.1.mono ?_; rintro e w1 ⟨v, rfl, hv, hb1⟩)
  have hv0 := own_base hv HK.out.2.2.2.2
  obtain ⟨ao, c, rfl, rd⟩ := row_rd hv
  have hRI := implRelIn_any ao c ys w1 (by have := HK.out.2.2.2.1; omega) rd
  have HB1 := Lib.hid (And.intro hb1 (And.intro hv0 hRI))
  clear hb1 hv hv0 hRI rd
  refine HB1.out.2.2.mono ?_
  rintro e w2 ⟨rfl, hb2⟩
  rw [HK.out.2.2.1]
  have HB2 := Lib.hid (And.intro hb2 (And.intro ((HK.out.2.1.below HB1.out.1).below hb2) (own_bel HB1.out.2.1 hb2)))
  clear hb2
  go_wp2_with (go_at_call 119; refine (become_any w0 _ bw b1 b2 xs ys HB2.out.2.1 _ HB2.out.2.2).mono ?_; rintro e w3 ⟨rfl, hB3, hg3⟩)
  have HB3 := Lib.hid (And.intro hB3 hg3)
  clear hB3 hg3
  go_wp2
  go_ret
  exact ⟨rfl, HB3.out.1, grown_trans (Below.grownAny HB1.out.1 _) (grown_trans (Below.grownAny HB2.out.1 _) HB3.out.2)⟩
end Go.Proofs.YthdnpcpimggjnaaGreatDoor

namespace Go.Proofs.YthdnpcpimggjnaaGreatDoor
open Go.RowKit

theorem bld_size : (Tryz.prog.info? 58).map (fun i => i.size) = some 2 := by kernel_rfl
theorem bld_lies : liesAt Tryz.prog Tryz.prog.depth 58 (2 / Tryz.prog.cellsOf 58) 0 58 1 = true := by kernel_rfl
theorem u8_info : (Tryz.prog.info? 5).map (fun i => (i.zero, i.size, i.bytes)) = some (some (.int .u8 0), 1, 1) := by kernel_rfl

set_option maxRecDepth 100000 in
theorem copyCheck_used (b : Nat) (w : World) (h0 : w.cell? ⟨b, 0, none⟩ = some (.pointer (some ⟨b, 0, none⟩))) :
    Calls Tryz.prog 93 #[.pointer (some ⟨b, 0, none⟩)] w fun e w' => e = .returned (.tuple #[]) ∧ w' = w := by
  obtain ⟨j, hj, _⟩ := Option.map_eq_some_iff.1 bld_size
  go_enter Tryz.func93, Tryz.ntmps93
  go_wp2
  rw [Lib.run_neq_ptr_same w _ Tryz.underlying56 hj]
  go_wp2
  go_end0
  exact ⟨rfl, rfl⟩
set_option maxHeartbeats 1000000 in
set_option maxRecDepth 100000 in
theorem copyCheck_fresh (b : Nat) (w : World) (h0 : w.cell? ⟨b, 0, none⟩ = some (.pointer none)) (hsh : w.shape? b = some (58, 2)) (hfz : w.frozen? ⟨b, 0, none⟩ = false) :
    Calls Tryz.prog 93 #[.pointer (some ⟨b, 0, none⟩)] w fun e w' => e = .returned (.tuple #[]) ∧ w' = w.setCell ⟨b, 0, none⟩ (.pointer (some ⟨b, 0, none⟩)) := by
  obtain ⟨j, hj, hjs⟩ := Option.map_eq_some_iff.1 bld_size
  go_enter Tryz.func93, Tryz.ntmps93
  go_wp2
  rw [Lib.run_to_unsafe w ⟨b, 0, none⟩ Tryz.underlying56 Tryz.underlying130 hj (by rw [hjs]; decide) hsh (Nat.zero_lt_succ 1)]
  simp only [Result.andThen]
  rw [Oper.upon_value]
  go_wp2
  rw [run_callFunc_extern Tryz.func166 (by kernel_rfl) (by kernel_rfl) (by kernel_rfl) (e := Extern.AbiNoEscape.same) (by kernel_rfl)]
  rw [Lib.run_noEscape]
  simp only [Result.andThen]
  rw [Oper.upon_value]
  go_wp2
  rw [Lib.run_from_unsafe w ⟨b, 0, none⟩ Tryz.underlying130 Tryz.underlying56 hj hsh bld_lies]
  simp only [Result.andThen]
  rw [Oper.upon_value]
  go_wp2
  go_end0
  exact ⟨rfl, rfl⟩
theorem copyCheck_any (B b : Nat) (bs : List Value) (w : World) (h : Lib.IsBuilderF 58 5 B b bs w) :
    Calls Tryz.prog 93 #[.pointer (some ⟨b, 0, none⟩)] w fun e w' => e = .returned (.tuple #[]) ∧
      Lib.BuilderAtF 58 5 B b (.pointer (some ⟨b, 0, none⟩)) bs w' ∧ Below B w w' ∧ Lib.OthersKept 5 (some b) w w' := by
  rcases h with h | h
  · exact (copyCheck_fresh b w h.cell0 h.shape h.frozen0).mono fun e w' ⟨he, hw⟩ => ⟨he, by subst hw; exact h.used _, by subst hw; exact (Below.refl B w).setCell (p := ⟨b, 0, none⟩) h.1 _, by subst hw; exact (Lib.OthersKept.refl _ _ w).setCell ⟨b, 0, none⟩ rfl _⟩
  · exact (copyCheck_used b w h.cell0).mono fun e w' ⟨he, hw⟩ => ⟨he, by subst hw; exact h, by subst hw; exact Below.refl B _, by subst hw; exact Lib.OthersKept.refl _ _ _⟩

set_option maxHeartbeats 1000000 in
set_option maxRecDepth 100000 in
theorem writeString_any (B b : Nat) (bs : List Value) (s : ByteArray) (w : World) (h : Lib.IsBuilderF 58 5 B b bs w) (hlen : bs.length + s.size ≤ 140737488355328) (hBw : B ≤ w.heap.size) :
    Calls Tryz.prog 26 #[.pointer (some ⟨b, 0, none⟩), .string s] w fun e w' => e = .returned (.tuple #[.int .i64 s.size, .nilIface]) ∧
      Lib.BuilderAtF 58 5 B b (.pointer (some ⟨b, 0, none⟩)) (bs ++ Lib.strCells s) w' ∧ Below B w w' ∧ Lib.OthersKept 5 (some b) w w' := by
  obtain ⟨i0, hi, hz0, hz1, hz2⟩ := info_parts u8_info
  go_enter Tryz.func26, Tryz.ntmps26
  go_wp2_with (go_at_call 93; refine (copyCheck_any B b bs _ h).mono ?_)
  rintro e w1 ⟨rfl, h1, hb1, hk1⟩
  obtain ⟨hB, v, hbk, hown, hne⟩ := h1
  have c0 : w1.cell? ⟨b, 0, none⟩ = some (.pointer (some ⟨b, 0, none⟩)) := by rw [Lib.cell_of_heap hbk]; rfl
  have c1 : w1.cell? ⟨b, 1, none⟩ = some v := by rw [Lib.cell_of_heap hbk]; rfl
  go_wp2_with (at_builtin; refine Lib.wpList_append_own_stringF _ rfl _ _ 22 9 rfl B 5 i0 Tryz.underlying22 Tryz.underlying9 hi hz0 hz1 hz2 _ _ _ rfl hown s rfl ?c3 ?c4 ?c5 ?_)
  case c3 => unfold maxLen; omega
  case c4 => omega
  case c5 => have := hb1.size; omega
  intro v' w2 hown' hgrow _
  have hlt : b < w1.heap.size := by
    rcases Nat.lt_or_ge b w1.heap.size with h' | h'
    · exact h'
    · simp [Array.getElem?_eq_none h'] at hbk
  have hb2 : w2.heap[b]? = some (.cells #[.pointer (some ⟨b, 0, none⟩), v] 58 (0, 0)) := by
    rw [hgrow.block b hlt (fun e => hne e.symm)]
    exact hbk
  have d0 : w2.cell? ⟨b, 0, none⟩ = some (.pointer (some ⟨b, 0, none⟩)) := by rw [Lib.cell_of_heap hb2]; rfl
  have d1 : w2.cell? ⟨b, 1, none⟩ = some v := by rw [Lib.cell_of_heap hb2]; rfl
  have f1 : w2.frozen? ⟨b, 1, none⟩ = false := Lib.frozen_of_heap hb2 1
  obtain ⟨ao, n', cap, rfl⟩ : ∃ ao n' cap, v' = .slice ao n' cap := by
    rcases hown'.2 with ⟨hv, _⟩ | ⟨g, cap, cur, fz, hv, _⟩
    · exact ⟨_, _, _, hv⟩
    · exact ⟨_, _, _, hv⟩
  go_wp2
  go_ret2
  refine ⟨rfl, ?_, ?_, (hk1.grown hgrow (Lib.ownsRowF_kind hown)).setCell ⟨b, 1, none⟩ rfl _⟩
  · exact Lib.BuilderAtF.put (T := 58) (e := 5) hB hb2 (bs' := bs ++ Lib.strCells s) (by simpa [Lib.strCells_length] using hown') (by decide)
  · exact (hb1.grown hgrow (by have := hb1.size; omega) (fun k hk => (hown.lt k hk).1)).setCell (p := ⟨b, 1, none⟩) hB _
/-- a builder that nothing has been written into -/
theorem builder_new (w : World) (B : Nat) (hB : B ≤ w.heap.size) : Lib.IsBuilderF 58 5 B w.heap.size [] (w.alloc (.cells #[.pointer none, .slice none 0 0] 58)) :=
  .inl ⟨hB, .slice none 0 0, heap_alloc_new _ _, World.ownsRowF_nil _ _ _ _, by simp [Value.ownBlock]⟩
theorem builder_grown {B b : Nat} {bs : List Value} {w w' : World} {q : Nat} (h : Lib.IsBuilderF 58 5 B b bs w) (hg : w.grownBy w' (some q)) (hq : b ≠ q) (hr : ∀ c fz, w.heap[q]? ≠ some (.cells c 5 fz)) : Lib.IsBuilderF 58 5 B b bs w' := by
  have key : ∀ p, Lib.BuilderAtF 58 5 B b p bs w → Lib.BuilderAtF 58 5 B b p bs w' := by
    intro p hp
    have hlt := hp.lt
    obtain ⟨hB, v, hbk, hown, hne⟩ := hp
    refine ⟨hB, v, (hg.block b hlt (by simpa using hq)).trans hbk, hown.kept hg ?_, hne⟩
    rcases hown.2 with ⟨rfl, _⟩ | ⟨g, cap, cur, fz, rfl, _, hgg, _⟩
    · exact .inl rfl
    · refine .inr fun e => ?_
      have : g = q := by simpa [Value.ownBlock] using e
      subst this
      exact hr _ _ hgg
  exact h.imp (key _) (key _)
end Go.Proofs.YthdnpcpimggjnaaGreatDoor

namespace Go.Proofs.YthdnpcpimggjnaaGreatDoor
open Go.RowKit

theorem Tab.rebase {w0 w1 w : World} {b : Nat} {l : List (ByteArray × Nat)} (h : Tab w1 w b l) (hb : Below w0.heap.size w0 w1) : Tab w0 w b l :=
  ⟨h.here, hb.trans (h.below.mono hb.size), Nat.le_trans hb.size h.base⟩
def outTo (ans : Nat → List UInt8) : Nat → List UInt8
  | 0 => []
  | k + 1 => outTo ans k ++ ans k ++ [10]
/-- a line that is answered, from one list to another -/
def Answers (l : List UInt8) (xs ys : List Int) (a : List UInt8) : Prop :=
  ∀ (w0 w : World) (bw b1 b2 : Nat), Bench w0 w bw b1 b2 xs → Calls Tryz.prog 27 #[.pointer (some ⟨bw, 0, none⟩), .string (baOf l)] w fun e w' => e = .returned (.string (baOf a)) ∧ Bench w0 w' bw b1 b2 ys ∧ w.grownBy w' (some bw)

theorem bytes_len (l : List UInt8) : (Lib.byteCells l).length = l.length := by simp [Lib.byteCells]
theorem nl_size (s : ByteArray) : (s ++ ⟨#[10]⟩).size = s.size + 1 := ByteArray.size_append
theorem pre_size (s : ByteArray) : ((⟨#[112, 97, 105, 114, 115, 32]⟩ : ByteArray) ++ s).size = s.size + 6 := by
  rw [ByteArray.size_append, Nat.add_comm]
  rfl
theorem cells_nl (l a : List UInt8) : Lib.byteCells l ++ Lib.strCells (baOf a ++ ⟨#[10]⟩) = Lib.byteCells (l ++ a ++ [10]) := by simp [Lib.byteCells, Lib.strCells, baOf]
theorem cells_pre (l a : List UInt8) : Lib.byteCells l ++ Lib.strCells ((⟨#[112, 97, 105, 114, 115, 32]⟩ : ByteArray) ++ baOf a ++ ⟨#[10]⟩) = Lib.byteCells (l ++ [112, 97, 105, 114, 115, 32] ++ a ++ [10]) := by simp [Lib.byteCells, Lib.strCells, baOf]
theorem builder_below {B b : Nat} {bs : List Value} {w w' : World} (h : Lib.IsBuilderF 58 5 B b bs w) (hb : Below w.heap.size w w') : Lib.IsBuilderF 58 5 B b bs w' := by
  have hlt : b < w.heap.size := by rcases h with h | h <;> exact h.lt
  have hg : w.grownBy w' (some w.heap.size) := Below.grownAny hb _
  refine builder_grown h hg (Nat.ne_of_lt hlt) (fun c fz e => ?_)
  rw [Array.getElem?_eq_none (Nat.le_refl _)] at e
  cases e
theorem builder_not {B b : Nat} {bs : List Value} {w : World} {o : Obj} (h : Lib.IsBuilderF 58 5 B b bs w) (hq : w.heap[b]? = some o) (ho : (∃ es c, o = .map es c) ∨ (∃ cs, o = .cells cs 53) ∨ ∃ cs, o = .cells cs 3) : False := by
  have key : ∀ p, Lib.BuilderAtF 58 5 B b p bs w → False := by
    intro p hp
    obtain ⟨_, v, hbk, _⟩ := hp
    rw [hq] at hbk
    rcases ho with ⟨_, _, rfl⟩ | ⟨_, rfl⟩ | ⟨_, rfl⟩ <;> cases hbk
  exact h.elim (key _) (key _)

set_option maxHeartbeats 4000000 in
set_option maxRecDepth 100000 in
theorem execute_any (w : World) (ls : List (List UInt8)) (sts : Nat → List Int) (ans : Nat → List UInt8) (n : Nat) (hm : MaxAt w) (hlow : 0 < w.heap.size)
    (hls : ∀ l ∈ ls, (10 : UInt8) ∉ l) (hlen : (joinC 10 (ls ++ [[]])).length ≤ 600) (hll : ls.length ≤ 600) (h0 : sts 0 = [0, 0, 0]) (hA : ∀ i l, ls[i]? = some l → Answers l (sts i) (sts (i + 1)) (ans i) ∧ (ans i).length ≤ 1048576)
    (hr : relIn (sts ls.length) = true) (hn : sizeL (sts ls.length) = n) (hn100 : n < 100) :
    Calls Tryz.prog 9 #[.string (baOf (joinC 10 (ls ++ [[]])))] w fun e w' => e = .returned (.string (baOf (outTo ans ls.length ++ [112, 97, 105, 114, 115, 32] ++ dig n ++ [10]))) ∧ Below w.heap.size w w' := by
  have hsz : (baOf (joinC 10 (ls ++ [[]]))).size ≤ 600 := by rw [ba_size]; exact hlen
  obtain ⟨e1, e2⟩ := split_join 10 (ls ++ [[]]) (by simp) (by
    intro p hp
    rcases List.mem_append.1 hp with h | h
    · exact hls p h
    · simp at h; subst h; simp)
  have hL := fun w => list_any [0, 0, 0] w (by decide)
  obtain ⟨st, hst⟩ : ∃ st, baOf (joinC 10 (ls ++ [[]])) = st := ⟨_, rfl⟩
  rw [hst] at hsz e1 e2 ⊢
  have hSp := fun (W : World) (m : Int) h => Tryz.strings_Split st ⟨#[10]⟩ m W (by omega) h (by decide)
  rw [e1, e2] at hSp
  simp only [List.length_append, List.length_cons, List.length_nil, Nat.zero_add] at hSp
  have g1 : ¬ ((600 : Int) < (st.size : Int)) := by omega
  have HK := Lib.hid (And.intro hSp (And.intro hL (And.intro hA (And.intro hm hlow))))
  clear hSp hL hA hm hlow hsz e1 e2 hst hlen hls
  go_enter Tryz.func9, Tryz.ntmps9
  go_wp2_with (go_at_call 22; refine (HK.out.2.1 _).mono ?_; rintro e w1 ⟨v, rfl, hv, hb1⟩)
  obtain ⟨ao, c, rfl, rd0⟩ := row_rd hv
  clear rd0
  go_wp2_with (go_at_call 23; refine (wordsAlone_any _).mono ?_; rintro e w2 ⟨b1, rfl, t1⟩)
  go_wp2_with (go_at_call 24; refine (wordsWithRest_any _).mono ?_; rintro e w3 ⟨b2, rfl, t2⟩)
  obtain ⟨W4, hW4⟩ : ∃ W4, w3.alloc (.cells #[.slice ao 3 c, .map (some b1), .map (some b2)] 53) = W4 := ⟨_, rfl⟩
  have hs1 := hb1.size
  have hs2 := t1.below.size
  have hs3 := t2.below.size
  have hb4 : Below w3.heap.size w3 W4 := by rw [← hW4]; exact below_one _ _
  have T1 := ((t1.rebase hb1).step t2.below).step hb4
  have T2 := (t2.rebase (hb1.trans (t1.below.mono hs1))).step hb4
  have hB4 : Bench w W4 w3.heap.size b1 b2 (sts 0) := by
    refine ⟨by omega, ⟨.slice ao 3 c, ?_, ?_⟩, T1, T2, ?_, HK.out.2.2.2.2⟩
    · rw [← hW4]; exact heap_alloc_new _ _
    · rw [h0]
      exact own_bel (own_bel (own_bel hv t1.below) t2.below) hb4
    · obtain ⟨m, hm⟩ := HK.out.2.2.2.1
      exact ⟨m, (T1.below.cell (p := ⟨0, 0, none⟩) HK.out.2.2.2.2).trans hm⟩
  obtain ⟨m, hm4⟩ := hB4.maxlen
  obtain ⟨bw, hbw⟩ : ∃ q, w3.heap.size = q := ⟨_, rfl⟩
  have H4 := Lib.hid (And.intro hB4 hm4)
  clear hB4 hm4 T1 T2 hb4 hs1 hs2 hs3 t1 t2 hv hb1
  go_wp2_with fail
  rw [hW4, hbw]
  rw [hbw] at H4
  clear hW4 hbw w3 w2 w1
  refine (HK.out.1 W4 m H4.out.2).mono ?_
  rintro e w5 ⟨rfl, hw5⟩
  obtain ⟨sb, hsb⟩ : ∃ q, W4.heap.size = q := ⟨_, rfl⟩
  have hl5 : w5.heap[sb]? = some (.cells (((ls ++ [[]]).map baOf).map Value.string).toArray 9) := by rw [hw5, ← hsb]; exact heap_alloc_new _ _
  have hb5 : Below W4.heap.size W4 w5 := by rw [hw5]; exact below_one _ _
  have hB5 := H4.out.1.below hb5
  have hs5 := hB5.below0.size
  have hN := builder_new w5 w.heap.size hs5
  have hb6 := below_one w5 (.cells #[.pointer none, .slice none 0 0] 58)
  have hB6 := hB5.below hb6
  have hl6 := (hb6.block sb (Array.getElem?_eq_some_iff.1 hl5).1).trans hl5
  have hne : bw ≠ w5.heap.size := Nat.ne_of_lt hB5.lt
  have hne2 : sb ≠ w5.heap.size := Nat.ne_of_lt (Array.getElem?_eq_some_iff.1 hl5).1
  have H6 := Lib.hid (And.intro hN (And.intro hB6 (And.intro hl6 (And.intro hne hne2))))
  rw [hsb]
  clear hN hb6 hB6 hl6 hne hne2 hs5 hB5 hb5 hl5 hw5 hsb H4
  obtain ⟨bb, hbb⟩ : ∃ q, w5.heap.size = q := ⟨_, rfl⟩
  obtain ⟨W6, hW6⟩ : ∃ q, w5.alloc (.cells #[.pointer none, .slice none 0 0] 58) = q := ⟨_, rfl⟩
  rw [hbb, hW6] at H6
  go_wp2
  clear hW6 hbb w5
  go_loopw [26, 7] (fun i _ wr => ∃ k : Nat, k ≤ ls.length ∧ i = .int .i64 k ∧ Bench w wr bw b1 b2 (sts k) ∧ Lib.IsBuilderF 58 5 w.heap.size bb (Lib.byteCells (outTo ans k)) wr ∧ (outTo ans k).length ≤ 1048577 * k ∧ wr.heap[sb]? = some (.cells (((ls ++ [[]]).map baOf).map Value.string).toArray 9))
    (fun i _ _ => ls.length - (intOf i).toNat)
  case atStart => exact ⟨0, Nat.zero_le _, rfl, H6.out.2.1, H6.out.1, Nat.zero_le _, H6.out.2.2.1⟩
  case round =>
    obtain ⟨k, hk, rfl, hB, hI, hlk, hl⟩ := hrel
    by_cases hlt : k < ls.length
    · obtain ⟨l, hl0⟩ : ∃ l, ls[k]? = some l := ⟨_, List.getElem?_eq_getElem hlt⟩
      obtain ⟨hAn, hAl⟩ := HK.out.2.2.1 k l hl0
      have hc : wr.cell? ⟨sb, k, none⟩ = some (.string (baOf l)) := by
        rw [cell_of_row wr sb k _ _ _ hl, List.getElem?_toArray, List.getElem?_map, List.getElem?_map, List.getElem?_append_left hlt, hl0]
        rfl
      have hAw := hAn w wr bw b1 b2 hB
      have HR := Lib.hid (And.intro hB (And.intro hI (And.intro hl (And.intro hAw (And.intro hAl hlk)))))
      have q1 : ¬ ((9223372036854775807 : Int) < ((baOf (ans k)).size : Int) + 1) := by rw [ba_size]; omega
      have hi1 : ((k : Nat) : Int) < (ls.length : Int) := by omega
      clear hB hI hl hAw hAl hAn hl0 hlk
      go_wp2_with (go_at_call 27; refine HR.out.2.2.2.1.mono ?_; rintro e w1 ⟨rfl, hB1, hg1⟩)
      have hI1 := builder_grown HR.out.2.1 hg1 (Ne.symm H6.out.2.2.2.1) (by
        obtain ⟨v, hv, _⟩ := HR.out.1.here
        rw [hv]
        intro cs fz e
        cases e)
      have hl1 := (hg1.block sb (Array.getElem?_eq_some_iff.1 HR.out.2.2.1).1 (by
        rintro e
        obtain rfl : sb = bw := Option.some.inj e
        obtain ⟨v, hv, _⟩ := HR.out.1.here
        rw [HR.out.2.2.1] at hv
        exact absurd (Obj.cells.inj (Option.some.inj hv)).2.1 (by decide))).trans HR.out.2.2.1
      have hz1 := hB1.below0.size
      have H1 := Lib.hid (And.intro hI1 (And.intro hB1 (And.intro hl1 hz1)))
      clear hI1 hB1 hl1 hz1 hg1
      have hbd : (Lib.byteCells (outTo ans k)).length + (baOf (ans k) ++ ⟨#[10]⟩).size ≤ 140737488355328 := by
        have h1 := HR.out.2.2.2.2.2
        have h2 := HR.out.2.2.2.2.1
        rw [bytes_len, nl_size, ba_size]
        omega
      go_wp2_with fail
      refine (writeString_any w.heap.size bb _ _ _ H1.out.1 hbd H1.out.2.2.2).mono ?_
      rintro e w2 ⟨rfl, hI2, hb2, ho2⟩
      have hB2 := H1.out.2.1.keep hb2 (fun q o hq _ ho => ho2 q o hq (by
        rintro e
        obtain rfl : q = bb := Option.some.inj e
        exact builder_not H1.out.1 hq ho) (by
        rintro cs fz rfl
        rcases ho with ⟨_, _, e⟩ | ⟨_, e⟩ | ⟨_, e⟩ <;> cases e))
      have hl2 := ho2 sb _ H1.out.2.2.1 (fun e => H6.out.2.2.2.2 (Option.some.inj e)) (fun cs fz e => by cases e)
      have H2 := Lib.hid (And.intro hI2 (And.intro hB2 hl2))
      clear hI2 hB2 hl2 hb2 ho2 hbd
      go_wp2
      refine ⟨⟨k + 1, by omega, by simp, H2.out.2.1, ?_, ?_, H2.out.2.2⟩, by simp [intOf]; omega⟩
      · refine .inr ?_
        have h := H2.out.1
        rw [cells_nl] at h
        exact h
      · have h1 := HR.out.2.2.2.2.2
        have h2 := HR.out.2.2.2.2.1
        simp only [outTo, List.length_append, List.length_cons, List.length_nil]
        omega
    · obtain rfl : k = ls.length := by omega
      obtain ⟨ao', c', hc0, rd⟩ := hB.rd
      have hlr : (sts ls.length).length ≤ 1048576 := by have := (Rl.of hr).four; omega
      have hRS := implRelSize_any ao' c' (sts ls.length) wr hlr rd
      rw [hr, hn] at hRS
      change Calls _ _ _ _ (fun e w' => e = .returned (.tuple #[.int .i64 n, .bool true]) ∧ _) at hRS
      have hIt := fun w => Tryz.strconv_Itoa_small n hn100 w
      rw [dig_dec ⟨n, hn100⟩] at hIt
      change ∀ w, Calls _ _ _ w (fun e w' => e = .returned (.string (baOf (dig n))) ∧ w' = w) at hIt
      obtain ⟨dn, hdn⟩ : ∃ d, baOf (dig n) = d := ⟨_, rfl⟩
      have hdl := dig_len ⟨n, hn100⟩
      simp only at hdl
      rw [hdn] at hIt
      have HR := Lib.hid (And.intro hB (And.intro hI (And.intro hlk (And.intro hRS (And.intro hIt (And.intro hdn hdl))))))
      clear hB hI hl hlk hRS hIt rd hdn hdl hr hn hlr
      go_wp2_with (go_at_call 8; refine HR.out.2.2.2.1.mono ?_; rintro e w1 ⟨rfl, hb1⟩)
      have hI1 : Lib.IsBuilderF 58 5 w.heap.size bb (Lib.byteCells (outTo ans ls.length)) w1 := builder_below HR.out.2.1 hb1
      have hB1 := HR.out.1.below hb1
      have H1 := Lib.hid (And.intro hI1 (And.intro hB1 hB1.below0))
      clear hI1 hB1 hb1
      have hbd : (Lib.byteCells (outTo ans ls.length)).length + ((⟨#[112, 97, 105, 114, 115, 32]⟩ : ByteArray) ++ dn ++ ⟨#[10]⟩).size ≤ 140737488355328 := by
        have h1 := HR.out.2.2.1
        have h2 := HR.out.2.2.2.2.2.2
        rw [bytes_len, ← HR.out.2.2.2.2.2.1, nl_size, pre_size, ba_size]
        omega
      have h2 := HR.out.2.2.2.2.2.2
      have q1 : ¬ ((9223372036854775807 : Int) < 6 + (dn.size : Int)) := by rw [← HR.out.2.2.2.2.2.1, ba_size]; omega
      have q2 : ¬ ((9223372036854775807 : Int) < 6 + (dn.size : Int) + 1) := by rw [← HR.out.2.2.2.2.2.1, ba_size]; omega
      clear h2
      go_wp2_with fail
      refine (HR.out.2.2.2.2.1 _).mono ?_
      rintro e w2 ⟨rfl, hw⟩
      rw [hw]
      clear hw w2
      go_wp2_with fail
      refine (writeString_any w.heap.size bb _ _ _ H1.out.1 hbd H1.out.2.2.size).mono ?_
      rintro e w2 ⟨rfl, hI2, hb2, ho2⟩
      rw [← HR.out.2.2.2.2.2.1, cells_pre] at hI2
      obtain ⟨L, hL⟩ : ∃ L, outTo ans ls.length ++ [112, 97, 105, 114, 115, 32] ++ dig n ++ [10] = L := ⟨_, rfl⟩
      rw [hL] at hI2
      have HL := Lib.hid hL
      clear hL
      have hz2 := hb2.size
      have hz1 := H1.out.2.2.size
      have H2 := Lib.hid (And.intro hI2 hb2)
      have hz3 : w.heap.size ≤ w2.heap.size := by omega
      clear hI2 hb2 ho2 hz2 hz1
      go_wp2_with (go_at_call 29; refine (Tryz.Builder_String_any_k w.heap.size bb _ _ (.inr H2.out.1) hz3).mono ?_; rintro e w3 ⟨rfl, _, hb3, _⟩)
      go_wp2
      go_ret
      exact ⟨by rw [HL.out]; rfl, H1.out.2.2.trans (H2.out.2.trans hb3)⟩
end Go.Proofs.YthdnpcpimggjnaaGreatDoor
