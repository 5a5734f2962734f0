/-
  The law FnExactRectOf: for every input the call returns true, and each argument reads behind the call as it read before. No conditions.
-/
import Derived.Test.YtbblfmknohaioaaRows
import Derived.Test.YtbblfmknohaioaaFH
import Derived.Test.YtbblfmknohaioaaLRectOf
import Derived.WalkKit
import Derived.ProofKit
import Derived.OpenShut
import Derived.ShutString
import Derived.ChangeOld
import Derived.Below
namespace Go.Proofs.Ytbblfmknohaioaa.fnExactRectOf
open Go.ChangeShapes Go.WideShapes Go.ChangeAt Go.RowKit Go.Deep
set_option linter.unusedVariables false

theorem own : ownKnob Try.prog.godebug = none := by kernel_rfl
theorem laidOut : laidOutB Try.prog = true := by kernel_rfl

theorem walk (a0 : Int) (ao : Option Addr) (cap : Nat) (xss : List (List Int)) (w : World) (hm : xss.length ≤ maxLen) (hms : ∀ (k : Nat) (xs : List Int), xss[k]? = some xs → xs.length ≤ maxLen) (hr : RdS w ao xss) :
    Calls Try.prog 9 #[.int .i64 a0, .slice ao xss.length cap] w fun e w' => e = .returned (.bool true) ∧ Below w.heap.size w w' := by
  refine exactRectOf_walk a0 ao cap xss (ifR (inB a0 1 4 && xss.all (okR a0.toNat)) (rofL a0.toNat xss)) (inB a0 1 4 && xss.all (okR a0.toNat)) w hr hm (fun k xs hk => hms k xs hk) ?_
    (fun ao cap w hn h => specRectOf_any ao cap a0 xss w hn h) (fun ao cap w hn h => implRectOf_any ao cap a0 xss w hn h)
  cases hb : inB a0 1 4 && xss.all (okR a0.toNat)
  · exact Nat.zero_le _
  · rw [Bool.and_eq_true] at hb
    have h14 : 1 ≤ a0 ∧ a0 ≤ 4 := of_decide_eq_true hb.1
    show (rofL a0.toNat xss).length ≤ 1048576
    rw [rof_len]
    omega

set_option maxRecDepth 100000 in
theorem lifted (os : Os) (started : os.Started) (H : Type) (enc : TypeId × Value → H) :
    ReturnsInHanded {} Try.checked os 9 .any (Rows.fnExactRectOfSpec.pre6 enc Try.prog Try.f9 Rows.fnExactRectOfRow.domain false) (Rows.fnExactRectOfSpec.post enc Try.prog Try.f9 false true false false) := by
  refine returnsInHanded_of_change (C := Try.checked) own started (by kernel_rfl) Try.func9
    (ChangeSpec.witness6 (enc := enc) (C := Try.checked) false ⟨#[], #[.int .i64 0, .slice none 0 0], []⟩ 8 (by kernel_rfl) (by kernel_rfl) (by kernel_rfl) (by kernel_rfl)) ?_
  intro W base args ds gs before hval0 hW hcnd _
  have hval : ∀ (j : Nat) t v, Try.f9.params[j]? = some t → args[j]? = some v → Value.okWide Try.prog W .any base t v := hval0
  have hW' := hW
  obtain ⟨p, q, hA0, hV, rfl, hfz, hnd⟩ := hW
  have hA : DataW.TrodAll enc Try.prog W 0 (fun _ => true) true Try.f9.params.toList args.toList ds p := hA0
  rw [Try.params9] at hA hval
  obtain ⟨v0, vs0, d0, ds0, p0, q0, hargs, rfl, rfl, h0, r0⟩ := trodAll_cons hA
  obtain ⟨v1, vs1, d1, ds1, p1, q1, rfl, rfl, rfl, h1, r1⟩ := trodAll_cons r0
  obtain ⟨rfl, rfl, rfl⟩ := trodAll_nil r1
  obtain rfl : args = #[v0, v1] := by cases args; simp_all
  obtain ⟨rfl, rfl⟩ := trodVars_none hV
  obtain ⟨a0, rfl, rfl, rfl, w0⟩ := open_int Try.underlying3 (hval 0 3 v0 rfl rfl) h0
  obtain ⟨a1, len1, cap1, rfl⟩ := okWide_slice Try.underlying28 (hval 1 28 v1 rfl rfl)
  have k1 := h1
  have lt1 : ∀ x ∈ p1, x.block < W.heap.size := by obtain ⟨m, hm⟩ := k1; exact DataW.trod_lt m _ _ _ hm
  obtain ⟨xss, rfl, hm, hms, hr⟩ : ∃ xss : List (List Int), xss.length = len1 ∧ len1 ≤ maxLen ∧ (∀ (k : Nat) (xs : List Int), xss[k]? = some xs → xs.length ≤ maxLen) ∧ RdS W a1 xss := by
    obtain ⟨fuel, hf⟩ := h1
    rcases open_int_rows Try.underlying28 Try.underlying22 Try.underlying3 (by kernel_rfl) (by kernel_rfl) hf with ⟨hcs, _⟩ | ⟨a, l, c, A, L, C, Z, hcs, _, hl, hm, _, hrows⟩
    · simp [Value.cells] at hcs
      obtain ⟨rfl, rfl, rfl⟩ := hcs
      exact ⟨[], rfl, Nat.zero_le _, fun k xs h => by simp at h, fun k xs h => by simp at h⟩
    · simp [Value.cells] at hcs
      obtain ⟨rfl, rfl, rfl⟩ := hcs
      exact rdS_of_rows hl hm hrows
  clear hA0 hval0
  refine (walk a0 a1 cap1 xss W hm hms hr).mono fun e W' ⟨he, bel⟩ => ?_
  subst he
  exact ⟨_, rfl, _, _, _, [], _, [], hW', trodAll_mk1 (shut_bool Try.underlying4 _), (trodAll_cons_mk (shut_int Try.underlying3 w0) (trodAll_cons_mk (Below.trod laidOut (by kernel_rfl) (of_decide_eq_true (by kernel_rfl)) k1 bel lt1) trodAll_mk0)), rfl, bel.frame _, fun h => by cases h⟩

theorem over : Rows.fnExactRectOfRow.holds Try.pinned (OpenSpec.ofChange Rows.fnExactRectOfSpec) :=
  OpenClaim.holds_of_wide 9 Try.f9 rfl rfl rfl rfl rfl rfl rfl ⟨rfl, rfl, rfl, rfl, rfl⟩ rfl rfl rfl rfl rfl (by kernel_rfl) Try.func9 (by kernel_rfl)
    (of_decide_eq_true (by kernel_rfl)) (by unfold Func.isWrapper; first | (rw [if_pos (by decide +kernel)]; kernel_rfl) | (rw [if_neg (by decide +kernel)]; exact ⟨rfl, rfl⟩))
    (fun os started H enc _ => lifted os started H enc)

/-- what is claimed -/
theorem proved : Rows.FnExactRectOfSaid := over
#print axioms proved
end Go.Proofs.Ytbblfmknohaioaa.fnExactRectOf
