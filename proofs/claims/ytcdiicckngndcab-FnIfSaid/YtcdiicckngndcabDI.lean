/-
  The draw of two relations: l91Two, DrawCompOf.
-/
import Derived.Test.YtcdiicckngndcabDH
import Derived.Test.YtcdiicckngndcabDF
namespace Go.Proofs.Ytcdiicckngndcab
open Go.RowKit

/-- what a draw of two gives: two lists of its own, of at most 5 numbers -/
def Drew2 (w : World) (e : Ending) (w' : World) : Prop :=
  ∃ (v u : Value) (rs ss : List Int), e = .returned (.tuple #[v, u]) ∧ rs.length ≤ 5 ∧ ss.length ≤ 5 ∧ w'.ownsRow w.heap.size 3 1 v rs.length (rs.map (Value.int .i64)) ∧ w'.ownsRow w.heap.size 3 1 u ss.length (ss.map (Value.int .i64)) ∧ Below w.heap.size w w'

theorem own_oth {w w' : World} {lo R n : Nat} {v : Value} {us : List Value} (h : w.ownsRow lo 3 1 v n us) (hR : R < lo) (hk : ∀ b, b < w.heap.size → b ≠ R → w'.heap[b]? = w.heap[b]?) : w'.ownsRow lo 3 1 v n us := by
  refine ⟨h.1, ?_⟩
  rcases h.2 with h2 | ⟨g, cap, cur, rfl, h2, h3, h4⟩
  · exact .inl h2
  · exact .inr ⟨g, cap, cur, rfl, h2, (hk g (h.lt g rfl).2 (by omega)).trans h3, h4⟩

set_option maxHeartbeats 4000000 in
theorem l91Two_any (ao : Option Addr) (c : Nat) (bs : List Nat) (w : World) (hb : RdB w ao bs) (hc : bs.length ≤ c) (hbA : bs ≠ [] → ∀ a, ao = some a → a.block < w.heap.size) :
    Calls Try.prog 64 #[.slice ao bs.length c] w (Drew2 w) := by
  have HB := Lib.hid (And.intro hb hbA)
  clear hb hbA
  go_enter Try.func64, Try.ntmps64
  go_wp2_with fail
  refine (open_any ao c bs w hc).mono ?_
  rintro e w1 ⟨bs', hbs, rfl, hr, hB⟩
  have hl : bs'.length ≤ 2000 := by rw [hbs, List.length_take]; omega
  have hA : bs' ≠ [] → ∀ a, ao = some a → a.block < w.heap.size := fun h => HB.out.2 (fun e => h (by rw [hbs, e]; rfl))
  have HA := Lib.hid hA
  clear hA
  have hb1 : RdB w1 ao bs' := by rw [hbs]; exact (HB.out.1.take 2000).below hB
  have S : DrS w1 w1 w.heap.size ao bs' c 0 := ⟨hr, Below.refl _ _, Nat.le_refl _, fun _ _ _ => rfl⟩
  have HC := Lib.hid (pick_step S hb1 HA.out hl (by omega) 4 4 rfl (by omega) (by omega))
  clear hr hbs
  go_wp2_with fail
  refine HC.out.mono ?_
  rintro e w2 ⟨k, hk, rfl, S2, hss, _, _⟩
  have S3 : DrS w2 w2 w.heap.size ao bs' c 1 := ⟨S2.rd, Below.refl _ _, Nat.le_refl _, fun _ _ _ => rfl⟩
  have hb2 := hb1.keep HA.out S2.bl S2.sz
  have HD := Lib.hid (l91Rel_any S3 hb2 HA.out hl (by omega) (1 + k) (1 + (k : Int)) (by omega) (by omega) (by omega))
  have hB2 : Below w.heap.size w w2 := hB.trans S2.bl
  have hsz2 := hB2.size
  have hRlt : w.heap.size < w2.heap.size := (Array.getElem?_eq_some_iff.1 S2.rd).1
  have HS := Lib.hid (And.intro hB2 hb2)
  clear HC S S2 S3 hb1 hb2 hB hB2 hss
  go_wp2_with fail
  refine HD.out.mono ?_
  rintro e w3 ⟨v, rs, q, rfl, hrl, ho, hq, S4⟩
  have hb3 := HS.out.2.keep HA.out S4.bl S4.sz
  have S5 : DrS w3 w3 w.heap.size ao bs' c q := ⟨S4.rd, Below.refl _ _, Nat.le_refl _, fun _ _ _ => rfl⟩
  have HE := Lib.hid (pick_step S5 hb3 HA.out hl (by omega) 24 24 rfl (by omega) (by omega))
  have B3 := HS.out.1.trans S4.bl
  have HR := Lib.hid (And.intro hrl (And.intro ho (And.intro B3 hb3)))
  clear hrl ho S4 S5 HD B3 hb3
  go_wp2_with fail
  refine HE.out.mono ?_
  rintro e w4 ⟨j, hj, rfl, S6, hss, hown, _⟩
  have ho4 := hown _ _ _ _ hRlt HR.out.2.1
  have hb4 := HR.out.2.2.2.keep HA.out S6.bl S6.sz
  have S7 : DrS w4 w4 w.heap.size ao bs' c (q + 1) := ⟨S6.rd, Below.refl _ _, Nat.le_refl _, fun _ _ _ => rfl⟩
  have hj1 : j / 23 ≤ 1 := by omega
  have HF := Lib.hid (l91Rel32_any S7 hb4 HA.out hl (by omega) (1 + k + j / 23) (1 + (k : Int) + (j : Int) / 23) (by omega) (by omega) (by omega))
  have B4 := HR.out.2.2.1.trans S6.bl
  have HT := Lib.hid (And.intro ho4 B4)
  clear ho4 hown hb4 S6 S7 HE B4
  go_wp2_with fail
  refine HF.out.mono ?_
  rintro e w5 ⟨u, ss, q2, rfl, hsl, ho5, _, S8⟩
  have HU := Lib.hid (And.intro hsl (And.intro ho5 S8))
  clear hsl ho5 S8 HF
  go_wp2
  go_ret2
  refine ⟨v, u, rs, ss, rfl, by have := HR.out.1; omega, by have := HU.out.1; omega, ?_, ?_, HT.out.2.trans HU.out.2.2.bl⟩
  · rw [HR.out.1]
    exact own_mono (own_oth HT.out.1 hRlt HU.out.2.2.oth) hsz2
  · rw [HU.out.1]
    exact own_mono HU.out.2.1 HT.out.2.size

end Go.Proofs.Ytcdiicckngndcab
