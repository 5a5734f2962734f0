/-
  The draw of a relation and two points: DrawCompFar.
-/
import Derived.Test.YtpbkgdohfnjjpabRD
namespace Go.Proofs.Ytpbkgdohfnjjpab
open Go.RowKit

/-- what a draw gives: a list of its own, of at most 4 numbers, and two numbers -/
def DrewF (w : World) (e : Ending) (w' : World) : Prop :=
  ∃ (v : Value) (rs : List Int) (x y : Int), e = .returned (.tuple #[v, .int .i64 x, .int .i64 y]) ∧ rs.length ≤ 4 ∧ w'.ownsRow w.heap.size 3 1 v rs.length (rs.map (Value.int .i64)) ∧ Below w.heap.size w w'

set_option maxHeartbeats 4000000 in
theorem drawCompFar_any (ao : Option Addr) (c : Nat) (bs : List Nat) (w : World) (hb : RdB w ao bs) (hc : bs.length ≤ c) (hbA : bs ≠ [] → ∀ a, ao = some a → a.block < w.heap.size) :
    Calls Try.prog 18 #[.slice ao bs.length c] w (DrewF w) := by
  have HB := Lib.hid (And.intro hb hbA)
  clear hb hbA
  go_enter Try.func18, Try.ntmps18
  go_wp2_with fail
  refine (open_any ao c bs w hc).mono ?_
  rintro e w1 ⟨bs', hbs, rfl, hr, hB⟩
  have hl : bs'.length ≤ 2000 := by rw [hbs, List.length_take]; omega
  have hA : bs' ≠ [] → ∀ a, ao = some a → a.block < w.heap.size := fun h => HB.out.2 (fun e => h (by rw [hbs, e]; rfl))
  have HA := Lib.hid hA
  clear hA
  have hb1 : RdB w1 ao bs' := by rw [hbs]; exact (HB.out.1.take 2000).below hB
  have S : DrS w1 w1 w.heap.size ao bs' c 0 := ⟨hr, Below.refl _ _, Nat.le_refl _, fun _ _ _ => rfl⟩
  have HC := Lib.hid (pick_step S hb1 HA.out hl (by omega) 4 4 rfl (by omega) (by omega))
  clear hr hbs
  go_wp2_with fail
  refine HC.out.mono ?_
  rintro e w2 ⟨k, hk, rfl, S2, hss, _, _⟩
  have S3 : DrS w2 w2 w.heap.size ao bs' c 1 := S2.hereD
  have hb2 := hb1.keep HA.out S2.bl S2.sz
  have HD := Lib.hid (l91Rel_any S3 hb2 HA.out hl (by omega) (1 + k) (1 + (k : Int)) (by omega) (by omega) (by omega))
  have hB2 : Below w.heap.size w w2 := hB.trans S2.bl
  have hsz2 := hB2.size
  have hRlt : w.heap.size < w2.heap.size := (Array.getElem?_eq_some_iff.1 S2.rd).1
  have HS := Lib.hid (And.intro hB2 hb2)
  clear HC S S2 S3 hb1 hb2 hB hB2 hss
  go_wp2_with fail
  refine HD.out.mono ?_
  rintro e w3 ⟨v, rs, q, rfl, hrl, ho, hq, S4⟩
  have hb3 := HS.out.2.keep HA.out S4.bl S4.sz
  have HP := Lib.hid (fun (wr : World) (p : Nat) (S : DrS w3 wr w.heap.size ao bs' c p) (hp : p ≤ 1048576) => pick_step S hb3 HA.out hl hp)
  have B3 := HS.out.1.trans S4.bl
  have hRw3 : w.heap.size < w3.heap.size := (Array.getElem?_eq_some_iff.1 S4.rd).1
  obtain ⟨n, hn⟩ : ∃ n : Nat, 1 + (k : Int) = (n : Int) := ⟨1 + k, by omega⟩
  have hn1 : 1 ≤ n := by omega
  have hn4 : n ≤ 4 := by omega
  have hrn : rs.length = n := by omega
  have H1 := Lib.hid (HP.out w3 q S4.hereD (by omega) n (n : Int) rfl (by omega) (by omega))
  have H2 := Lib.hid (fun (wa : World) (Sa : DrS w3 wa w.heap.size ao bs' c (q + 1)) => HP.out wa (q + 1) Sa (by omega) 24 24 rfl (by omega) (by omega))
  have H3 := Lib.hid (fun (wb : World) (j : Nat) (hj : j < 24) (Sb : DrS w3 wb w.heap.size ao bs' c (q + 1 + 1)) => HP.out wb (q + 1 + 1) Sb (by omega) (n + j / 23) ((n : Int) + (j : Int) / 23) (by omega) (by omega) (by omega))
  have H4 := Lib.hid (fun (wd : World) (Sd : DrS w3 wd w.heap.size ao bs' c (q + 1 + 1 + 1)) => HP.out wd (q + 1 + 1 + 1) Sd (by omega) 24 24 rfl (by omega) (by omega))
  have HR := Lib.hid (And.intro hrl (And.intro B3 (And.intro hsz2 hrn)))
  have HO := Lib.hid ho
  rw [hn]
  clear hrl ho S4 HD B3 hb3 hsz2 hn hrn
  go_wp2_with fail
  refine H1.out.mono ?_
  rintro e wa ⟨x, hx, rfl, Sa, hsa, howna, _⟩
  have HOa := Lib.hid (howna _ _ _ _ hRlt HO.out)
  have HQ := Lib.hid (H2.out wa Sa)
  clear Sa hsa howna H1
  go_wp2_with fail
  refine HQ.out.mono ?_
  rintro e wb ⟨j, hj, rfl, Sb, hsb, hownb, _⟩
  have HOb := Lib.hid (hownb _ _ _ _ hRlt HOa.out)
  have HQ2 := Lib.hid (H3.out wb j hj Sb)
  have hj1 : j / 23 ≤ 1 := by omega
  clear Sb hsb hownb HQ
  go_wp2_with fail
  refine HQ2.out.mono ?_
  rintro e wd ⟨y, hy, rfl, Sd, hsd, hownd, _⟩
  have HOd := Lib.hid (hownd _ _ _ _ hRlt HOb.out)
  have HQ3 := Lib.hid (H4.out wd Sd)
  clear Sd hsd hownd HQ2
  go_wp2_with fail
  refine HQ3.out.mono ?_
  rintro e we ⟨i, hi, rfl, Se, hse, howne, _⟩
  have HT := Lib.hid (And.intro (howne _ _ _ _ hRlt HOd.out) Se)
  clear Se hse howne HQ3
  go_wp2
  go_ret3
  exact ⟨v, rs, _, _, rfl, by have := HR.out.2.2.2; omega, by rw [HR.out.1]; exact own_mono HT.out.1 HR.out.2.2.1, HR.out.2.1.trans HT.out.2.bl⟩
end Go.Proofs.Ytpbkgdohfnjjpab
