/-
  The draws of a relation and a text of kinds: DrawKindLeast and DrawKindMost.
-/
import Derived.Test.YtnmgoeklcmoalaaRD
import Derived.Test.YtnmgoeklcmoalaaGD
import Derived.Test.YtnmgoeklcmoalaaRL
namespace Go.Proofs.Ytnmgoeklcmoalaa
open Go.RowKit

/-- what a draw gives: a list of its own, of at most 4 numbers, and a text -/
def DrewS (w : World) (e : Ending) (w' : World) : Prop :=
  ∃ (v : Value) (rs : List Int) (st : ByteArray), e = .returned (.tuple #[v, .string st]) ∧ rs.length ≤ 4 ∧ st.size ≤ 12 ∧ w'.ownsRow w.heap.size 3 1 v rs.length (rs.map (Value.int .i64)) ∧ Below w.heap.size w w'

def kinds4 : List ByteArray := [⟨#[114, 115, 116]⟩, ⟨#[116, 115, 114]⟩, ⟨#[114, 115, 116]⟩, ⟨#[114, 105, 115, 97]⟩]
theorem kinds4_size : ∀ st ∈ kinds4, 1 ≤ st.size ∧ st.size ≤ 4 := by decide
theorem kinds4_cells (w : World) (k : Nat) (st : ByteArray) (h : kinds4[k]? = some st) :
    (w.alloc (.cells #[.string ⟨#[114, 115, 116]⟩, .string ⟨#[116, 115, 114]⟩, .string ⟨#[114, 115, 116]⟩, .string ⟨#[114, 105, 115, 97]⟩] 9)).cell? ⟨w.heap.size, k, none⟩ = some (.string st) := by
  have hn := World.alloc_heap_new w (.cells #[.string ⟨#[114, 115, 116]⟩, .string ⟨#[116, 115, 114]⟩, .string ⟨#[114, 115, 116]⟩, .string ⟨#[114, 105, 115, 97]⟩] 9)
  simp only [World.cell?, hn]
  have hk : k < 4 := (List.getElem?_eq_some_iff.1 h).1
  rcases (by omega : k = 0 ∨ k = 1 ∨ k = 2 ∨ k = 3) with rfl | rfl | rfl | rfl <;> (cases h; rfl)
def kinds7 : List ByteArray := [⟨#[]⟩, ⟨#[105]⟩, ⟨#[115]⟩, ⟨#[105, 115]⟩, ⟨#[115, 105]⟩, ⟨#[105, 105]⟩, ⟨#[116]⟩]
theorem kinds7_size : ∀ st ∈ kinds7, st.size ≤ 2 := by decide
theorem kinds7_cells (w : World) (k : Nat) (st : ByteArray) (h : kinds7[k]? = some st) :
    (w.alloc (.cells #[.string ⟨#[]⟩, .string ⟨#[105]⟩, .string ⟨#[115]⟩, .string ⟨#[105, 115]⟩, .string ⟨#[115, 105]⟩, .string ⟨#[105, 105]⟩, .string ⟨#[116]⟩] 9)).cell? ⟨w.heap.size, k, none⟩ = some (.string st) := by
  have hn := World.alloc_heap_new w (.cells #[.string ⟨#[]⟩, .string ⟨#[105]⟩, .string ⟨#[115]⟩, .string ⟨#[105, 115]⟩, .string ⟨#[115, 105]⟩, .string ⟨#[105, 105]⟩, .string ⟨#[116]⟩] 9)
  simp only [World.cell?, hn]
  have hk : k < 7 := (List.getElem?_eq_some_iff.1 h).1
  rcases (by omega : k = 0 ∨ k = 1 ∨ k = 2 ∨ k = 3 ∨ k = 4 ∨ k = 5 ∨ k = 6) with rfl | rfl | rfl | rfl | rfl | rfl | rfl <;> (cases h; rfl)
set_option maxRecDepth 20000 in
set_option maxHeartbeats 4000000 in
theorem drawKindLeast_any (ao : Option Addr) (c : Nat) (bs : List Nat) (w : World) (hb : RdB w ao bs) (hc : bs.length ≤ c) (hbA : bs ≠ [] → ∀ a, ao = some a → a.block < w.heap.size) :
    Calls Try.prog 36 #[.slice ao bs.length c] w (DrewS w) := by
  have HB := Lib.hid (And.intro hb hbA)
  have HD := Lib.hid (l91Some_any ao c bs w hb hc hbA)
  clear hb hbA
  go_enter Try.func36, Try.ntmps36
  go_wp2_with fail
  refine HD.out.mono ?_
  rintro e w3 ⟨v, rs, rfl, hrl, ho, hB⟩
  have HO := Lib.hid (And.intro hrl (And.intro ho hB))
  clear hrl ho hB HD
  go_wp2_with fail
  refine (open_any ao c bs w3 hc).mono ?_
  rintro e w4 ⟨bs', hbs, rfl, hr, hB4⟩
  have hl : bs'.length ≤ 2000 := by rw [hbs, List.length_take]; omega
  have hA : bs' ≠ [] → ∀ a, ao = some a → a.block < w3.heap.size := fun h a e => Nat.lt_of_lt_of_le (HB.out.2 (fun e => h (by rw [hbs, e]; rfl)) a e) HO.out.2.2.size
  have hb4 : RdB w4 ao bs' := by rw [hbs]; exact ((HB.out.1.below HO.out.2.2).take 2000).below hB4
  have c1 := hr.cell1
  have f1 := hr.free 1
  have r5 := hr.at61
  have B5 : Below w3.heap.size w3 (w4.setCell ⟨w3.heap.size, 1, none⟩ (.int .i64 61)) := hB4.setCell (p := ⟨w3.heap.size, 1, none⟩) (Nat.le_refl _) _
  have hb5 : RdB (w4.setCell ⟨w3.heap.size, 1, none⟩ (.int .i64 61)) ao bs' := hb4.keep hA ((Below.refl _ _).setCell (p := ⟨w3.heap.size, 1, none⟩) (Nat.le_refl _) _) (by simp)
  clear hbs hr hB4 hb4
  go_wp2_with fail
  obtain ⟨w5, hw5⟩ : ∃ w5, w4.setCell ⟨w3.heap.size, 1, none⟩ (.int .i64 61) = w5 := ⟨_, rfl⟩
  rw [hw5] at r5 B5 hb5 ⊢
  have HP := Lib.hid (fun (wr : World) (p : Nat) (S : DrS w5 wr w3.heap.size ao bs' c p) (hp : p ≤ 1048576) => pick_step S hb5 hA hl hp)
  have hRw5 : w3.heap.size < w5.heap.size := (Array.getElem?_eq_some_iff.1 r5).1
  have S5 : DrS w5 w5 w3.heap.size ao bs' c 61 := ⟨r5, Below.refl _ _, Nat.le_refl _, fun _ _ _ => rfl⟩
  have S6 := S5.step hRw5 (below_one w5 (.cells #[.string ⟨#[114, 115, 116]⟩, .string ⟨#[116, 115, 114]⟩, .string ⟨#[114, 115, 116]⟩, .string ⟨#[114, 105, 115, 97]⟩] 9))
  have hs5 : w5.heap.size = w4.heap.size := by rw [← hw5]; simp
  have hf := of_step S6 hb5 hA hl (by omega) w5.heap.size 4 kinds4 (by omega) (kinds4_cells w5) (by decide) (by decide)
  rw [hs5] at hf
  have HF := Lib.hid hf
  clear hf hs5 hw5 c1 f1 r5 S5 S6 HP
  go_wp2_with fail
  refine HF.out.mono ?_
  rintro e wb ⟨st, hst, rfl, Sb, hsb, _⟩
  have hsz := kinds4_size st hst
  have HK := Lib.hid (l91Kinds_any Sb.hereD (hb5.keep hA Sb.bl Sb.sz) hA hl (by omega) st hsz.1 (by omega))
  have HSB := Lib.hid Sb
  clear Sb hsb HF hst hb5 hA
  go_wp2_with fail
  refine HK.out.mono ?_
  rintro e wd ⟨st2, q, rfl, hs2, Sd⟩
  have HT := Lib.hid (And.intro (B5.trans (HSB.out.bl.trans Sd.bl)) hs2)
  clear Sd B5 HK hs2
  go_wp2
  go_ret2
  exact ⟨v, rs, st2, rfl, HO.out.1, HT.out.2, keepT HO.out.2.1 HT.out.1, HO.out.2.2.trans (HT.out.1.mono HO.out.2.2.size)⟩
set_option maxRecDepth 20000 in
set_option maxHeartbeats 4000000 in
theorem drawKindMost_any (ao : Option Addr) (c : Nat) (bs : List Nat) (w : World) (hb : RdB w ao bs) (hc : bs.length ≤ c) (hbA : bs ≠ [] → ∀ a, ao = some a → a.block < w.heap.size) :
    Calls Try.prog 31 #[.slice ao bs.length c] w (DrewS w) := by
  have HB := Lib.hid (And.intro hb hbA)
  have HD := Lib.hid (l91Some_any ao c bs w hb hc hbA)
  clear hb hbA
  go_enter Try.func31, Try.ntmps31
  go_wp2_with fail
  refine HD.out.mono ?_
  rintro e w3 ⟨v, rs, rfl, hrl, ho, hB⟩
  have HO := Lib.hid (And.intro hrl (And.intro ho hB))
  clear hrl ho hB HD
  go_wp2_with fail
  refine (open_any ao c bs w3 hc).mono ?_
  rintro e w4 ⟨bs', hbs, rfl, hr, hB4⟩
  have hl : bs'.length ≤ 2000 := by rw [hbs, List.length_take]; omega
  have hA : bs' ≠ [] → ∀ a, ao = some a → a.block < w3.heap.size := fun h a e => Nat.lt_of_lt_of_le (HB.out.2 (fun e => h (by rw [hbs, e]; rfl)) a e) HO.out.2.2.size
  have hb4 : RdB w4 ao bs' := by rw [hbs]; exact ((HB.out.1.below HO.out.2.2).take 2000).below hB4
  have c1 := hr.cell1
  have f1 := hr.free 1
  have r5 := hr.at61
  have B5 : Below w3.heap.size w3 (w4.setCell ⟨w3.heap.size, 1, none⟩ (.int .i64 61)) := hB4.setCell (p := ⟨w3.heap.size, 1, none⟩) (Nat.le_refl _) _
  have hb5 : RdB (w4.setCell ⟨w3.heap.size, 1, none⟩ (.int .i64 61)) ao bs' := hb4.keep hA ((Below.refl _ _).setCell (p := ⟨w3.heap.size, 1, none⟩) (Nat.le_refl _) _) (by simp)
  clear hbs hr hB4 hb4
  go_wp2_with fail
  obtain ⟨w5, hw5⟩ : ∃ w5, w4.setCell ⟨w3.heap.size, 1, none⟩ (.int .i64 61) = w5 := ⟨_, rfl⟩
  rw [hw5] at r5 B5 hb5 ⊢
  have HP := Lib.hid (fun (wr : World) (p : Nat) (S : DrS w5 wr w3.heap.size ao bs' c p) (hp : p ≤ 1048576) => pick_step S hb5 hA hl hp)
  have hRw5 : w3.heap.size < w5.heap.size := (Array.getElem?_eq_some_iff.1 r5).1
  have S5 : DrS w5 w5 w3.heap.size ao bs' c 61 := ⟨r5, Below.refl _ _, Nat.le_refl _, fun _ _ _ => rfl⟩
  have S6 := S5.step hRw5 (below_one w5 (.cells #[.string ⟨#[]⟩, .string ⟨#[105]⟩, .string ⟨#[115]⟩, .string ⟨#[105, 115]⟩, .string ⟨#[115, 105]⟩, .string ⟨#[105, 105]⟩, .string ⟨#[116]⟩] 9))
  have hs5 : w5.heap.size = w4.heap.size := by rw [← hw5]; simp
  have hf := of_step S6 hb5 hA hl (by omega) w5.heap.size 7 kinds7 (by omega) (kinds7_cells w5) (by decide) (by decide)
  rw [hs5] at hf
  have HF := Lib.hid hf
  clear hf hs5 hw5 c1 f1 r5 S5 S6 HP
  go_wp2_with fail
  refine HF.out.mono ?_
  rintro e wb ⟨st, hst, rfl, Sb, hsb, _⟩
  have hsz := kinds7_size st hst
  have HT := Lib.hid (And.intro (B5.trans Sb.bl) hsz)
  clear Sb B5 hsb HF hst hb5 hA hsz
  go_wp2
  go_ret2
  exact ⟨v, rs, st, rfl, HO.out.1, by have := HT.out.2; omega, keepT HO.out.2.1 HT.out.1, HO.out.2.2.trans (HT.out.1.mono HO.out.2.2.size)⟩
end Go.Proofs.Ytnmgoeklcmoalaa
