/-
  The program's RelNamed: one contract.
-/
import Derived.Test.YtebkeebgjjmdbabAB
import Derived.Test.YtebkeebgjjmdbabAC
namespace Go.Proofs.Ytebkeebgjjmdbab
open Go.RowKit

theorem implRelNamed_any (ao bo : Option Addr) (ca cb : Nat) (xs ps : List Int) (w : World) (hl : xs.length ≤ 1048576) (hl2 : ps.length ≤ 1048576) (hx : Rd w ao xs) (hy : Rd w bo ps) :
    Calls Try.prog 5 #[.slice ao xs.length ca, .slice bo ps.length cb] w (Gave w (ifR (namB xs ps) (namL xs ps)) (namB xs ps)) := by
  unfold namB
  cases hp : relIn xs with
  | false => exact implRelNamed_no1 ao bo ca cb xs ps w hl hp hx
  | true =>
    cases hq : eachB xs.length ps with
    | false => exact implRelNamed_no2 ao bo ca cb xs ps w hl2 hp hq hx hy
    | true => exact callsIn_wide.1 (implRelNamed_in ao bo ca cb xs ps w hl2 hp hq hx hy)
end Go.Proofs.Ytebkeebgjjmdbab
