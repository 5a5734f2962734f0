/-
  The model's RectRank; for lists of at most 2^20 numbers.
-/
import Derived.Test.YtpbkgdohfnjjpabQJ
import Derived.Test.YtpbkgdohfnjjpabDD
namespace Go.Proofs.Ytpbkgdohfnjjpab
open Go.RowKit

theorem b_bitz : ∀ z : Fin 16, ∀ k : Fin 4, (bits .and .i64 ((z.val : Int) / 2 ^ k.val) 1 == 0) = !hasB (z.val : Int) k.val := by decide +kernel
/-- rectangles as lists -/
def FL (F : List (Int × Int)) : List (List Int) := F.map fun r => [r.1, r.2]
theorem FL_len (F : List (Int × Int)) : (FL F).length = F.length := List.length_map _
theorem FL_at {F : List (Int × Int)} {k : Nat} {r : Int × Int} (h : F[k]? = some r) : (FL F)[k]? = some [r.1, r.2] := by
  unfold FL
  rw [List.getElem?_map, h]
  rfl
/-- what the search keeps -/
def NoYet (n : Nat) (F : List (Int × Int)) (m : Nat) (zs : List Int) (q p d : Nat) : Prop := ∀ t r, t < d → F[t]? = some r → hasR r q p = true → ¬ CV n F m (minR n zs r)
theorem noYet_step {n : Nat} {F : List (Int × Int)} {m : Nat} {zs : List Int} {q p d : Nat} (h : NoYet n F m zs q p d) {g : Int × Int} (hg : F[d]? = some g) (hn : hasR g q p = true → ¬ CV n F m (minR n zs g)) : NoYet n F m zs q p (d + 1) := by
  intro t r ht hr e
  by_cases e2 : t = d
  · subst e2
    rw [hg] at hr
    cases hr
    exact hn e
  · exact h t r (by omega) hr e
theorem noYet_end {n : Nat} {F : List (Int × Int)} {m : Nat} {zs : List Int} {q p : Nat} (hz : Rl n zs) (hF : ∀ r, r ∈ F → isRect n r) (hq : q < n) (hp : p < n) (e : hB zs q p = true) (h : NoYet n F m zs q p F.length) : ¬ CV n F (m + 1) zs := by
  refine cv_no hz hF hq hp e fun r hr e2 => ?_
  obtain ⟨t, ht, rfl⟩ := List.mem_iff_getElem.1 hr
  exact h t _ ht (List.getElem?_eq_getElem ht) e2

set_option maxRecDepth 100000 in
set_option maxHeartbeats 16000000 in
theorem cover_any {n : Nat} {F : List (Int × Int)} (hF : ∀ r, r ∈ F → isRect n r) (hlF : F.length ≤ 1000) (ao bo : Option Addr) (ca cb : Nat) :
    ∀ (m : Nat) (zs : List Int) (co : Option Addr) (cc : Nat) (w : World), m ≤ 1000 → Rl n zs → Rd w co zs → RdS w bo (FL F) →
      Calls Try.prog 63 #[.slice ao n ca, .slice bo F.length cb, .slice co n cc, .int .i64 m] w fun e w' => ∃ b : Bool, e = .returned (.bool b) ∧ (b = true ↔ CV n F m zs) ∧ Below w.heap.size w w' := by
  intro m
  induction m with
  | zero =>
    intro zs co cc w _ hz hx _
    have h4 := hz.four
    have HZ := Lib.hid (And.intro hz (And.intro hz.len hx))
    clear hz hx
    go_enter Try.func63, Try.ntmps63
    go_wp2
    go_loopw [9, 10, 11, 12, 13] (fun i _ _ _ _ wr => ∃ q : Nat, q ≤ n ∧ i = .int .i64 q ∧ Hid (∀ a j, a < q → j < n → hB zs a j = false) ∧ Dn w wr)
      (fun i _ _ _ _ _ => n - (intOf i).toNat)
    case atStart => exact ⟨0, Nat.zero_le _, rfl, Lib.hid (fun a j ha => by omega), Dn.refl _⟩
    case round =>
      obtain ⟨q, hq, rfl, HQ, hd⟩ := hrel
      by_cases hlt : q < n
      · go_wp2
        go_loopw [10, 11, 12, 13] (fun k _ _ _ wr => ∃ p : Nat, p ≤ n ∧ k = .int .i64 p ∧ Hid (∀ j, j < p → hB zs q j = false) ∧ Dn w wr)
          (fun k _ _ _ _ => n - (intOf k).toNat)
        case atStart => exact ⟨0, Nat.zero_le _, rfl, Lib.hid (fun j hj => by omega), hd⟩
        case round =>
          clear hd
          obtain ⟨p, hp, rfl, HP, hd⟩ := hrel
          by_cases hlp : p < n
          · obtain ⟨b, off, x, hxk, rfl, hbl, hc1⟩ := (hd.rd HZ.out.2.2).get q (by rw [HZ.out.2.1]; exact hlt)
            obtain ⟨y, hy, _⟩ := HZ.out.1.row q
            have hxy : x = (y.val : Int) := by rw [rowA hxk, hy]
            subst hxy
            have hbz := b_bitz y ⟨p, by omega⟩
            dsimp only at hbz
            have hB1 : hB zs q p = hasB (y.val : Int) p := by unfold hB; rw [hy]
            have hi1 : ((q : Nat) : Int) < (n : Int) := by omega
            cases hh : hasB (y.val : Int) p with
            | false =>
              rw [hh] at hbz hB1
              have HB := Lib.hid hB1
              have hb2 : (bits .and .i64 ((y.val : Int) / 2 ^ p) 1 == 0) = true := hbz
              clear hbz hB1 hh hy hxk
              go_wp2
              go_roundw
              case rel => exact ⟨p + 1, by omega, by go_num, Lib.hid (fun j hj => by
                by_cases e : j = p
                · subst e
                  exact HB.out
                · exact HP.out j (by omega)), hd⟩
              case measure => simp [intOf]; omega
            | true =>
              rw [hh] at hbz hB1
              have HB := Lib.hid hB1
              have hb2 : (bits .and .i64 ((y.val : Int) / 2 ^ p) 1 == 0) = false := hbz
              clear hbz hB1 hh hy hxk
              go_wp2
              go_ret
              exact ⟨false, rfl, ⟨fun e => Bool.noConfusion e, fun e => absurd e (cv_no0 hlt hlp HB.out)⟩, hd.below _⟩
          · obtain rfl : p = n := by omega
            go_wp2
            go_roundw
            case rel => exact ⟨q + 1, by omega, by go_num, Lib.hid (fun a j ha hj => by
              by_cases e : a = q
              · subst e
                exact HP.out j hj
              · exact HQ.out a j (by omega) hj), hd⟩
            case measure => simp [intOf]; omega
      · obtain rfl : q = n := by omega
        go_wp2
        go_ret
        exact ⟨true, rfl, ⟨fun _ => cv_none HQ.out, fun _ => rfl⟩, hd.below _⟩
  | succ m ih =>
    intro zs co cc w hm hz hx hR
    have h4 := hz.four
    obtain ⟨i0, hi, hz0, hz1, hz2⟩ := info_parts Try.info3
    obtain ⟨b0, off0, _, _, rfl, _, _⟩ := hx.get 0 (by rw [hz.len]; exact hz.one)
    have h1 := hz.one
    have HZ := Lib.hid (And.intro hz (And.intro hz.len hx))
    have HR := Lib.hid (And.intro hR (And.intro ih hF))
    obtain ⟨M, hM⟩ : ∃ M : Int, ((m + 1 : Nat) : Int) = M := ⟨_, rfl⟩
    rw [hM]
    have hmz : (M == 0) = false := beq_eq_false_iff_ne.2 (by omega)
    have hms : M - 1 = (m : Int) := by omega
    have hM1 : 1 ≤ M := by omega
    have hM2 : M ≤ 1000 := by omega
    clear hz hx hR ih hF hM
    go_enter Try.func63, Try.ntmps63
    go_wp2
    go_loopw [9, 10, 11, 12, 13] (fun i _ _ _ _ wr => ∃ q : Nat, q ≤ n ∧ i = .int .i64 q ∧ Hid (∀ a j, a < q → j < n → hB zs a j = false) ∧ Dn w wr)
      (fun i _ _ _ _ _ => n - (intOf i).toNat)
    case atStart => exact ⟨0, Nat.zero_le _, rfl, Lib.hid (fun a j ha => by omega), Dn.refl _⟩
    case round =>
      obtain ⟨q, hq, rfl, HQ, hd⟩ := hrel
      by_cases hlt : q < n
      · go_wp2
        go_loopw [10, 11, 12, 13] (fun k _ _ _ wr => ∃ p : Nat, p ≤ n ∧ k = .int .i64 p ∧ Hid (∀ j, j < p → hB zs q j = false) ∧ Dn w wr)
          (fun k _ _ _ _ => n - (intOf k).toNat)
        case atStart => exact ⟨0, Nat.zero_le _, rfl, Lib.hid (fun j hj => by omega), hd⟩
        case round =>
          clear hd
          obtain ⟨p, hp, rfl, HP, hd⟩ := hrel
          by_cases hlp : p < n
          · obtain ⟨b, off, x, hxk, hbo, hbl, hc1⟩ := (hd.rd HZ.out.2.2).get q (by rw [HZ.out.2.1]; exact hlt)
            simp only [Option.some.injEq, Addr.mk.injEq, and_true] at hbo
            obtain ⟨rfl, rfl⟩ := hbo
            obtain ⟨y, hy, _⟩ := HZ.out.1.row q
            have hxy : x = (y.val : Int) := by rw [rowA hxk, hy]
            subst hxy
            have hbz := b_bitz y ⟨p, by omega⟩
            dsimp only at hbz
            have hB1 : hB zs q p = hasB (y.val : Int) p := by unfold hB; rw [hy]
            have hi1 : ((q : Nat) : Int) < (n : Int) := by omega
            cases hh : hasB (y.val : Int) p with
            | false =>
              rw [hh] at hbz hB1
              have HB := Lib.hid hB1
              have hb2 : (bits .and .i64 ((y.val : Int) / 2 ^ p) 1 == 0) = true := hbz
              clear hbz hB1 hh hy hxk
              go_wp2
              go_roundw
              case rel => exact ⟨p + 1, by omega, by go_num, Lib.hid (fun j hj => by
                by_cases e : j = p
                · subst e
                  exact HB.out
                · exact HP.out j (by omega)), hd⟩
              case measure => simp [intOf]; omega
            | true =>
              rw [hh] at hbz hB1
              have HB := Lib.hid hB1
              have hb2 : (bits .and .i64 ((y.val : Int) / 2 ^ p) 1 == 0) = false := hbz
              have B1 := hd.below w.heap.size
              clear hbz hB1 hh hy hxk HP HQ
              go_wp2
              clear hc1 hb2 hd
              go_loopw [11, 12, 13] (fun r _ _ wr => ∃ d : Nat, d ≤ F.length ∧ r = .int .i64 d ∧ Hid (NoYet n F m zs q p d) ∧ Below w.heap.size w wr)
                (fun r _ _ _ => F.length - (intOf r).toNat)
              case atStart => exact ⟨0, Nat.zero_le _, rfl, Lib.hid (fun t r ht => by omega), B1⟩
              case round =>
                clear B1
                obtain ⟨d, hdl, rfl, HD, hB⟩ := hrel
                by_cases hld : d < F.length
                · obtain ⟨g, hg⟩ : ∃ g, F[d]? = some g := ⟨_, List.getElem?_eq_getElem hld⟩
                  have hgF : g ∈ F := List.mem_of_getElem? hg
                  obtain ⟨su, tu, rfl, hsu, htu⟩ := HR.out.2.2 g hgF
                  obtain ⟨b', off', ak, ck, rfl, hbl', hc1, hrd⟩ := (HR.out.1.below hB) d _ (FL_at hg)
                  obtain ⟨b2, o2, rfl, hb2, hcs⟩ := hrd 0 (su.val : Int) rfl
                  obtain ⟨b3, o3, he, hb3, hct⟩ := hrd 1 (tu.val : Int) rfl
                  simp only [Option.some.injEq, Addr.mk.injEq, and_true] at he
                  obtain ⟨rfl, rfl⟩ := he
                  simp only [Nat.add_zero] at hcs
                  simp only [List.length_cons, List.length_nil, Nat.zero_add, Nat.reduceAdd] at hc1
                  have hi2 : ((d : Nat) : Int) < (F.length : Int) := by omega
                  have hs0 := b_bitz su ⟨q, by omega⟩
                  have ht0 := b_bitz tu ⟨p, by omega⟩
                  dsimp only at hs0 ht0
                  have HG := Lib.hid (And.intro hg hgF)
                  clear hg hgF hrd
                  cases hhs : hasB (su.val : Int) q with
                  | false =>
                    rw [hhs] at hs0
                    have hs1 : (bits .and .i64 ((su.val : Int) / 2 ^ q) 1 == 0) = true := hs0
                    have HST := Lib.hid (noYet_step HD.out HG.out.1 (fun e => by rw [hasR_iff, hhs] at e; cases e.1))
                    clear hs0 ht0 hhs
                    go_wp2
                    go_roundw
                    case rel => exact ⟨d + 1, by omega, by go_num, HST, hB⟩
                    case measure => simp [intOf]; omega
                  | true =>
                    rw [hhs] at hs0
                    have hs1 : (bits .and .i64 ((su.val : Int) / 2 ^ q) 1 == 0) = false := hs0
                    cases hht : hasB (tu.val : Int) p with
                    | false =>
                      rw [hht] at ht0
                      have ht1 : (bits .and .i64 ((tu.val : Int) / 2 ^ p) 1 == 0) = true := ht0
                      have HST := Lib.hid (noYet_step HD.out HG.out.1 (fun e => by rw [hasR_iff, hht] at e; cases e.2))
                      clear hs0 ht0 hhs hht
                      go_wp2
                      go_roundw
                      case rel => exact ⟨d + 1, by omega, by go_num, HST, hB⟩
                      case measure => simp [intOf]; omega
                    | true =>
                      rw [hht] at ht0
                      have ht1 : (bits .and .i64 ((tu.val : Int) / 2 ^ p) 1 == 0) = false := ht0
                      have HH := Lib.hid (hasR_iff.2 ⟨hhs, hht⟩ : hasR ((su.val : Int), (tu.val : Int)) q p = true)
                      clear hs0 ht0 hhs hht
                      obtain ⟨wq, rfl⟩ : ∃ wq : World, wq = wr := ⟨_, rfl⟩
                      have hB2 := hB
                      clear hB
                      have HNEWS := Lib.hid (news_of (HZ.out.2.2.below hB2))
                      have hls : wq.heap.size ≥ w.heap.size := hB2.size
                      have hzlen := HZ.out.2.1
                      go_wp2_with (at_builtin; refine wpList_append_own _ rfl (.tmp 64) (.tmp 65) 23 rfl wq.heap.size 3 i0 (.int .i64 0) 1 8 Try.underlying23 hi hz0 hz1 hz2 rfl (by decide) _ _ _ rfl (row_lit0 wq) ⟨b0, off0, none⟩ n cc (zs.map (Value.int .i64)) rfl (by simp; omega) HNEWS.out (by simp [Value.oneCell']) (by unfold maxLen; omega) (by omega) (by simp) ?_)
                      intro v0 wa hown hgrow _
                      have hB3 : Below wq.heap.size wq wa := (below_one wq (.cells #[] 3)).grown hgrow (by simp) (fun k hk => ((row_lit0 wq).lt k hk).1)
                      obtain ⟨gg, cap, rfl, hg1, hg2⟩ := own_form hown h1
                      have hown2 := own_mono hown hls
                      have hB4 := hB2.trans (hB3.mono hls)
                      clear hgrow HNEWS hown hB3 hB2 hzlen hg2 hc1 hcs hct hs1 ht1
                      have HO0 : wa.ownsRow w.heap.size 3 1 (.slice (some ⟨gg, 0, none⟩) n cap) n ((minTo zs (su.val : Int) (tu.val : Int) 0).map (Value.int .i64)) := hown2
                      clear hown2
                      go_wp2
                      go_loopw [13] (fun v wr => ∃ c : Nat, c ≤ n ∧ v = .int .i64 c ∧ wr.ownsRow w.heap.size 3 1 (.slice (some ⟨gg, 0, none⟩) n cap) n ((minTo zs (su.val : Int) (tu.val : Int) c).map (Value.int .i64)) ∧ Below w.heap.size w wr)
                        (fun v _ => n - (intOf v).toNat)
                      case atStart => exact ⟨0, Nat.zero_le _, rfl, HO0, hB4⟩
                      case round =>
                        clear HO0 hB4
                        obtain ⟨c, hc, rfl, ho, hB⟩ := hrel
                        have hml : (minTo zs (su.val : Int) (tu.val : Int) c).length = n := by rw [min_len]; exact HZ.out.2.1
                        by_cases hlc : c < n
                        · obtain ⟨b', off', ak, ck, hae, hbl', hc1, hrd⟩ := (HR.out.1.below hB) d _ (FL_at HG.out.1)
                          simp only [Option.some.injEq, Addr.mk.injEq, and_true] at hae
                          obtain ⟨rfl, rfl⟩ := hae
                          obtain ⟨b2, o2, rfl, hb2, hcs⟩ := hrd 0 (su.val : Int) rfl
                          obtain ⟨b3, o3, he, hb3, hct⟩ := hrd 1 (tu.val : Int) rfl
                          simp only [Option.some.injEq, Addr.mk.injEq, and_true] at he
                          obtain ⟨rfl, rfl⟩ := he
                          simp only [Nat.add_zero] at hcs
                          simp only [List.length_cons, List.length_nil, Nat.zero_add, Nat.reduceAdd] at hc1
                          have hi3 : ((c : Nat) : Int) < (n : Int) := by omega
                          have hbb := b_bit su ⟨c, by omega⟩
                          dsimp only at hbb
                          clear hrd
                          cases hb : bitB (su.val : Int) c with
                          | false =>
                            rw [hb] at hbb
                            have HST := Lib.hid (min_no (zs := zs) (t := (tu.val : Int)) hbb.symm)
                            have hb4 : (bits .and .i64 ((su.val : Int) / 2 ^ c) 1 == 1) = false := hb
                            clear hbb hb hml
                            go_wp2
                            go_roundw
                            case rel => exact ⟨c + 1, by omega, by go_num, by rw [HST.out]; exact ho, hB⟩
                            case measure => simp [intOf]; omega
                          | true =>
                            rw [hb] at hbb
                            have hst := min_yes (zs := zs) (t := (tu.val : Int)) hbb.symm
                            have hb4 : (bits .and .i64 ((su.val : Int) / 2 ^ c) 1 == 1) = true := hb
                            obtain ⟨Y, hY⟩ : ∃ Y, minTo zs (su.val : Int) (tu.val : Int) c = Y := ⟨_, rfl⟩
                            rw [hY] at hst ho hml
                            have hc2 := ho.cellAt c (by omega)
                            have hf2 := ho.frozenAt c
                            have hzk : (Y.map (Value.int .i64))[c]? = some (.int .i64 (rowAt Y c)) := by
                              rw [List.getElem?_map, rowAt_get (by omega)]
                              rfl
                            rw [hzk] at hc2
                            have hst2 := (ho.stored c (.int .i64 (bits .andNot .i64 (rowAt Y c) (tu.val : Int)))).1
                            rw [← List.map_set, ← hst] at hst2
                            have hgb := (ho.lt gg rfl).1
                            have HST := Lib.hid (And.intro hst2 hgb)
                            clear hst hst2 hzk hbb hb hY hml hgb
                            go_wp2
                            go_region
                            all_goals
                              go_wp2
                              go_roundw
                              case rel => exact ⟨c + 1, by omega, by go_num, HST.out.1.drew, hB.drew.setCell (p := ⟨gg, c, none⟩) HST.out.2 _⟩
                              case measure => simp [intOf]; omega
                        · have hcn : c = n := by omega
                          rw [hcn] at ho hml
                          have hi3 : ¬ ((c : Nat) : Int) < (n : Int) := by omega
                          clear hcn
                          have hrd : Rd wr (some ⟨gg, 0, none⟩) (minR n zs ((su.val : Int), (tu.val : Int))) := rd_own ho hml
                          have hisr : isRect n ((su.val : Int), (tu.val : Int)) := ⟨su, tu, rfl, hsu, htu⟩
                          have hcall := HR.out.2.1 (minR n zs ((su.val : Int), (tu.val : Int))) (some ⟨gg, 0, none⟩) cap wr (by omega) (min_rl HZ.out.1 hisr) hrd (HR.out.1.below hB)
                          have HC := Lib.hid (And.intro hcall hisr)
                          clear hcall hrd hisr ho hml
                          go_wp2_with fail
                          refine HC.out.1.mono ?_
                          rintro e w9 ⟨bb, rfl, hiff, hb9⟩
                          have hB9 := hB.trans (hb9.mono hB.size)
                          clear hb9 hB hi3
                          cases bb with
                          | true =>
                            have HY := Lib.hid (cv_yes HZ.out.1 HC.out.2 HG.out.2 (hiff.1 rfl))
                            clear hiff
                            go_wp2
                            go_ret
                            exact ⟨true, rfl, ⟨fun _ => HY.out, fun _ => rfl⟩, hB9⟩
                          | false =>
                            have HST := Lib.hid (noYet_step HD.out HG.out.1 (fun _ e => Bool.noConfusion (hiff.2 e)))
                            clear hiff
                            go_wp2
                            go_roundw
                            case rel => exact ⟨d + 1, by omega, by go_num, HST, hB9⟩
                            case measure => simp [intOf]; omega
                · obtain rfl : d = F.length := by omega
                  go_wp2
                  go_ret
                  exact ⟨false, rfl, ⟨fun e => Bool.noConfusion e, fun e => absurd e (noYet_end HZ.out.1 HR.out.2.2 hlt hlp HB.out HD.out)⟩, hB⟩
          · obtain rfl : p = n := by omega
            go_wp2
            go_roundw
            case rel => exact ⟨q + 1, by omega, by go_num, Lib.hid (fun a j ha hj => by
              by_cases e : a = q
              · subst e
                exact HP.out j hj
              · exact HQ.out a j (by omega) hj), hd⟩
            case measure => simp [intOf]; omega
      · obtain rfl : q = n := by omega
        go_wp2
        go_ret
        exact ⟨true, rfl, ⟨fun _ => cv_none HQ.out, fun _ => rfl⟩, hd.below _⟩
end Go.Proofs.Ytpbkgdohfnjjpab

namespace Go.Proofs.Ytpbkgdohfnjjpab
open Go.RowKit

theorem own2_rdS {w : World} {lo hi : Nat} {v : Value} {F : List (Int × Int)} {gs : Nat → Nat} (h : Own2 w lo hi v F.length (PI F) gs) : ∃ ao cap, v = .slice ao F.length cap ∧ RdS w ao (FL F) := by
  obtain ⟨ao, cap, hv, hc⟩ := h.rd
  refine ⟨ao, cap, hv, fun k ys hk => ?_⟩
  have hlt : k < F.length := by
    have := (List.getElem?_eq_some_iff.1 hk).1
    rw [FL_len] at this
    exact this
  obtain ⟨r, hr⟩ : ∃ r, F[k]? = some r := ⟨_, List.getElem?_eq_getElem hlt⟩
  rw [FL_at hr] at hk
  cases hk
  obtain ⟨b, hb, hcell⟩ := hc k hlt
  obtain ⟨l2, o2⟩ := h.rows k hlt
  rw [PI_at hr] at l2 o2
  have hrow := o2.row
  have hvb := h.row.lt
  refine ⟨b, 0, some ⟨gs k, 0, none⟩, 2, hb, ?_, by rw [Nat.zero_add]; exact hcell, rd_own hrow rfl⟩
  subst hb
  rw [hv] at hvb
  exact (hvb b rfl).2

/-- a number, or 0 -/
def rkI (b : Bool) (k : Nat) : Int := if b then (k : Int) else 0

set_option maxHeartbeats 4000000 in
theorem specRectRank_any (ao : Option Addr) (ca : Nat) (xs : List Int) (k : Nat) (w : World) (hk : relIn xs = true → k ≤ (fullL xs).length ∧ LeastC xs.length (fullL xs) xs k) (hl : xs.length ≤ 1048576) (hx : Rd w ao xs) :
    Calls Try.prog 29 #[.slice ao xs.length ca] w fun e w' => e = .returned (.tuple #[.int .i64 (rkI (relIn xs) k), .bool (relIn xs)]) ∧ Below w.heap.size w w' := by
  have h1 := specRelIn_any ao ca xs w hl hx
  cases hp : relIn xs with
  | false =>
    rw [hp] at h1
    have H1 := Lib.hid h1
    clear h1 hp
    go_enter Try.func29, Try.ntmps29
    go_wp2_with fail
    refine H1.out.mono ?_
    rintro e w1 ⟨rfl, hd⟩
    go_wp2
    go_ret2
    exact ⟨rfl, hd.below _⟩
  | true =>
    rw [hp] at h1
    obtain ⟨hk1, hk2⟩ := hk hp
    have R := Rl.of hp
    have h16 : (fullL xs).length ≤ 16 := Nat.le_trans (full_len xs _) (pow_le16 R.four)
    have H1 := Lib.hid h1
    have HC := Lib.hid (And.intro (fun w h => l6rAll_any R ao ca w h) (And.intro R (And.intro hk2 hx)))
    clear h1 hp hk2 hx R hk
    go_enter Try.func29, Try.ntmps29
    go_wp2_with fail
    refine H1.out.mono ?_
    rintro e w1 ⟨rfl, hd⟩
    have B1 := hd.below w.heap.size
    clear hd H1
    go_wp2
    go_loopw [4] (fun n wr => ∃ j : Nat, j ≤ k ∧ n = .int .i64 j ∧ Below w.heap.size w wr)
      (fun n _ => k - (intOf n).toNat)
    case atStart => exact ⟨0, Nat.zero_le _, rfl, B1⟩
    case round =>
      clear B1
      obtain ⟨j, hj, rfl, hB⟩ := hrel
      have hall := HC.out.1 wr (HC.out.2.2.2.below hB)
      have HA := Lib.hid hall
      clear hall
      go_wp2_with fail
      refine HA.out.mono ?_
      rintro e w2 ⟨v, gs, rfl, ho, hb⟩
      have hB2 := hB.trans (hb.mono hB.size)
      obtain ⟨bo, cb, rfl, hrs⟩ := own2_rdS ho
      have hcov := cover_any (n := xs.length) (F := fullL xs) (fun r hr => (full_mem HC.out.2.1 hr).1) (by omega) ao bo ca cb j xs ao ca w2 (by omega) HC.out.2.1 (HC.out.2.2.2.below hB2) hrs
      have HV := Lib.hid hcov
      clear hcov hrs ho hb hB HA
      go_wp2_with fail
      refine HV.out.mono ?_
      rintro e w3 ⟨b, rfl, hiff, hb⟩
      have hB3 := hB2.trans (hb.mono hB2.size)
      clear hb hB2 HV
      cases b with
      | true =>
        have hjk : j = k := by
          by_cases e : j < k
          · exact absurd (hiff.1 rfl) (HC.out.2.2.1.2 j e)
          · omega
        have HJ := Lib.hid hjk
        clear hiff hjk
        go_wp2
        go_ret2
        exact ⟨by rw [HJ.out]; rfl, hB3⟩
      | false =>
        have hjk : j < k := by
          by_cases e : j = k
          · subst e
            exact Bool.noConfusion (hiff.2 HC.out.2.2.1.1)
          · omega
        clear hiff
        go_wp2
        go_roundw
        case rel => exact ⟨j + 1, by omega, by go_num, hB3⟩
        case measure => simp [intOf]; omega
end Go.Proofs.Ytpbkgdohfnjjpab
