/-
  HashMacs (P3.2): the sum of any parts with any key is the plain answers'. The condition is the table's: it holds what its initialiser lays, which the card ties to the program's text.
-/
import Derived.Test.YtmcipmcilaonbaaDoorHt
import Derived.Test.YtmcipmcilaonbaaDoorHr
import Derived.Test.YtmcipmcilaonbaaDoorRm
import Derived.Test.YtmcipmcilaonbaaDoorEq
import Derived.Deep.RegionHeld3
namespace Go.Proofs.YtmcipmcilaonbaaDoor
set_option linter.unusedVariables false
set_option linter.unusedSimpArgs false
open Go.ChangeShapes Go.WideShapes Go.ChangeAt Go.RowKit

theorem macS_length (K l : List UInt8) : (macS K l).length = 32 := sha_length _
section
set_option maxHeartbeats 1600000
set_option maxRecDepth 100000
theorem macs_walk (B : Option Addr) (cb : Nat) (K : List UInt8) (A : Option Addr) (c : Nat) (P : List (Option Addr × Nat × List UInt8)) (w : World) (ht : AddsMet w) (hk : Rd w B (K.map Bv)) (hlb : K.length ≤ cb) (hcb : cb ≤ 9223372036854775807)
    (hx : RowsRd w A P) (hlc : P.length ≤ c) (hcm : c ≤ 9223372036854775807) :
    Calls Tryd.prog 5 #[.slice B K.length cb, .slice A P.length c] w fun e w' => e = .returned (.bool true) ∧ Below w.heap.size w w' := by
  have HT := Lib.hid ht; clear ht
  obtain ⟨n, hn⟩ : ∃ n, n = P.length := ⟨_, rfl⟩
  obtain ⟨kn, hkn⟩ : ∃ kn, kn = K.length := ⟨_, rfl⟩
  rw [← hn] at hlc ⊢
  rw [← hkn] at hlb ⊢
  have HN := Lib.hid hn; clear hn
  have HKN := Lib.hid hkn; clear hkn
  have hlm : n ≤ 9223372036854775807 := by omega
  go_enter Tryd.func5, Tryd.ntmps5
  go_wp2_with fail
  refine (live_any w HT.out).mono ?_
  rintro e w1 ⟨rfl, hb1⟩
  have hx1 := hx.below hb1
  have hk1 := hk.below hb1
  have hp1 := parts_one w1 B cb kn K HKN.out.symm hk1 hlb hcb
  have hb2 := hb1.alloc hb1.size (.cells #[.slice B kn cb] 28)
  have hx2 := hx1.below ((Below.refl _ w1).alloc (Nat.le_refl _) (.cells #[.slice B kn cb] 28))
  have hk2 := hk1.alloc (.cells #[.slice B kn cb] 28)
  clear hx hk hx1 hk1
  go_wp2_with fail
  refine (short_any _ (some ⟨w1.heap.size, 0, none⟩) 1 1 [(B, cb, K)] rfl hp1.row (by decide)).mono ?_
  rintro e w2 ⟨rfl, rfl⟩
  have ht2 := HT.out.below hb2
  clear hp1
  generalize w1.alloc (.cells #[.slice B kn cb] 28) = w2 at *
  have HT2 := Lib.hid ht2; clear ht2 HT
  cases hs : shortB [(B, cb, K)] with
  | false =>
    clear hs
    go_wp2_with fail
    refine (live_any w2 HT2.out).mono ?_
    rintro e w3 ⟨rfl, hb3⟩
    have hb3' := hb2.trans (hb3.mono hb2.size)
    go_wp2
    go_ret
    exact ⟨rfl, hb3'⟩
  | true =>
    have hk2000 : kn ≤ 2000 := by
      have := (shortB_spec hs).1 (B, cb, K) (by simp)
      simpa [HKN.out] using this
    clear hs
    go_wp2_with fail
    refine (short_any w2 A c n P HN.out.symm hx2.1 hlm).mono ?_
    rintro e w3 ⟨rfl, rfl⟩
    cases hs : shortB P with
    | false =>
      clear hs
      go_wp2_with fail
      refine (live_any w2 HT2.out).mono ?_
      rintro e w3 ⟨rfl, hb3⟩
      have hb3' := hb2.trans (hb3.mono hb2.size)
      go_wp2
      go_ret
      exact ⟨rfl, hb3'⟩
    | true =>
      have hjl := joined_short hs
      clear hs
      have HX2 := Lib.hid hx2; clear hx2
      have HK2 := Lib.hid hk2; clear hk2
      have HJL := Lib.hid hjl; clear hjl
      go_wp2_with fail
      refine (mac_any w2 B A cb kn c n K P HKN.out.symm HK2.out hlb hcb (by omega) HT2.out HN.out.symm HX2.out.parts (by have := HJL.out; omega) hlm).mono ?_
      rintro e w3 ⟨rfl, hb3⟩
      have hb3' := hb2.trans (hb3.mono hb2.size)
      have hx3 := HX2.out.below hb3
      have hk3 := HK2.out.below hb3
      have HX3 := Lib.hid hx3; clear hx3
      have HK3 := Lib.hid hk3; clear hk3
      obtain ⟨sl, hsl2⟩ : ∃ sl, sl = macS K (joined P) := ⟨_, rfl⟩
      rw [← hsl2]
      have hsl : sl.length = 32 := by rw [hsl2]; exact macS_length _ _
      obtain ⟨cm, hcm'⟩ : ∃ cm, cm = sl.map Bv := ⟨_, rfl⟩
      have hcn : cm.length = 32 := by rw [hcm', List.length_map, hsl]
      have hone : ∀ v ∈ cm, v.oneCell' = true := by rw [hcm']; exact bytes_one _
      unfold sumV
      rw [← hcm']
      have HCM := Lib.hid hcm'; clear hcm'
      have HCN := Lib.hid hcn; clear hcn
      have HON := Lib.hid hone; clear hone
      clear hb3 HX2 HK2 HT2 hb2
      go_wp2_with (first
        | (refine wpList_store_agg (o := ⟨none, _, _, _, _, _⟩) ?_ 25 (.tmp 5) (.tmp 22) ?_ w3.heap.size 0 cm ?_ ?_ 25 _ (heap_alloc_new w3 _) ?_ ?_ HON.out ?_; rfl; rfl; rfl; rfl; (rw [HCN.out]; kernel_rfl); (rw [HCN.out]; decide); intro w4 hg4 hm4 hs4)
        | fail)
      obtain ⟨hg4', hb4, hz4⟩ := fresh_store hg4 hm4 hs4 HCN.out
      have hb4' := hb3'.trans (hb4.mono hb3'.size)
      have hx4 := HX3.out.below hb4
      have hk4 := HK3.out.below hb4
      have HG4 := Lib.hid hg4'; clear hg4' hg4 hm4 hs4
      have HX4 := Lib.hid hx4; clear hx4
      have HK4 := Lib.hid hk4; clear hk4
      clear HX3 HK3 hb3' hb4
      have hjn := join_any w4.drew A c P HX4.out.1 (fun p hp => (HX4.out.2 p hp).1) (by have := HJL.out; omega) (by rw [← HN.out]; exact hlm)
      rw [← HN.out] at hjn
      obtain ⟨jl, hjl⟩ : ∃ jl, jl = joined P := ⟨_, rfl⟩
      rw [← hjl] at HJL hjn hsl2
      obtain ⟨jn, hjn2⟩ : ∃ jn, jn = jl.length := ⟨_, rfl⟩
      rw [← hjn2] at HJL hjn
      have hjb := HJL.out
      have HJ := Lib.hid hjn; clear hjn
      have HJN := Lib.hid hjn2; clear hjn2 hjl
      have HSL := Lib.hid hsl; clear hsl
      have HS2 := Lib.hid hsl2; clear hsl2
      clear HX4
      go_region_held3 (fun _ => True) (exact trivial) (first
        | (go_at_call 17; go_must (refine HJ.out.mono ?_; rintro e w5 ⟨v5, rfl, own5, hb5⟩; obtain ⟨A5, c5, rfl, rd5, _, hn5, hm5⟩ := own_rd own5; have hg5 := (hb5.block w3.heap.size (blk_lt HG4.out)).trans HG4.out; have hk5 : Rd w5 B (K.map Bv) := Rd.below (by exact HK4.out) hb5; have HK5 := Lib.hid hk5; have HG5 := Lib.hid hg5; clear hg5 own5 hk5))
        | (go_at_call 24; go_must (refine (rmac_any w5 B A5 cb c5 kn jn K jl HKN.out.symm HJN.out.symm HK5.out rd5 (by omega) (by omega)).mono ?_; rintro e w6 ⟨v6, rfl, own6, hb6⟩; obtain ⟨A6, c6, rfl, rd6, _, hn6, hm6⟩ := own_rd own6; rw [← HS2.out] at rd6; have hg6 := (hb6.block w3.heap.size (blk_lt HG5.out)).trans HG5.out; have hrd : Rd w6 (some ⟨w3.heap.size, 0, none⟩) (sl.map Bv) := (by rw [← HCM.out]; intro k v hv; exact ⟨_, 0, rfl, by rw [cell_blk hg6, Nat.zero_add]; simpa using hv⟩); have HG6 := Lib.hid hg6; clear hg6 own6))
        | (go_at_call 15; go_must (refine (equal_yes (some ⟨w3.heap.size, 0, none⟩) A6 32 c6 32 32 sl sl w6 rfl HSL.out HSL.out hrd rd6 (by rw [HSL.out]; decide)).mono ?_; rintro e w7 ⟨rfl, m, rfl⟩)))
      all_goals
        go_wp2
        go_ret
        have b5 : Below w.heap.size w w5 := hb4'.trans ((show Below w4.heap.size w4 w5 from ⟨hb5.os, hb5.tape, hb5.output, hb5.size, hb5.block⟩).mono hb4'.size)
        exact ⟨rfl, below_drewN (b5.trans (hb6.mono b5.size)) _⟩

theorem hashMacs_contract (H : Type) (enc : TypeId × Value → H) (W : World) (base : Nat) (args : Array Value) (ds gs : List (DataW H)) (before : List MemPlace)
    (hval : ∀ (j : Nat) t v, Tryd.f5.params[j]? = some t → args[j]? = some v → Value.okWide Tryd.prog W .any base t v)
    (hW : DataW.Whole enc Tryd.prog Tryd.f5.params.toList Rows.hashMacsSpec.vars false W args.toList ds gs before) (hL : laidMetH Tryd.prog Rows.hashMacsRow.laid W) :
    Calls Tryd.prog 5 args W fun e W' => ∃ v, e = .returned v ∧ Rows.hashMacsSpec.post enc Tryd.prog Tryd.f5 false true false false W args v W' := by
  have hW' := hW
  obtain ⟨p, q, hA0, hV, rfl, hfz, hnd⟩ := hW
  have hA : DataW.TrodAll enc Tryd.prog W 0 (fun _ => true) true Tryd.f5.params.toList args.toList ds p := hA0
  rw [Tryd.params5] at hA hval
  obtain ⟨v0, vs0, d0, ds0, p0, q0, hargs, rfl, rfl, h0, r0⟩ := trodAll_cons hA
  obtain ⟨v1, vs1, d1, ds1, p1, q1, rfl, rfl, rfl, h1, r1⟩ := trodAll_cons r0
  obtain ⟨rfl, rfl, rfl⟩ := trodAll_nil r1
  obtain rfl : args = #[v0, v1] := by cases args; simp_all
  obtain ⟨rfl, rfl⟩ := trodVars_none hV
  obtain ⟨A0, c0, xs0, rfl, hm0, hx0⟩ := open_bytes Tryd.underlying28 Tryd.underlying5 (by kernel_rfl) (hval 0 28 v0 rfl rfl) h0
  obtain ⟨A1, c1, xs1, rfl, hm1, hx1⟩ := open_rows (hval 1 22 v1 rfl rfl) h1
  clear hA0 hA
  unfold maxLen at hm0
  unfold maxLen at hm1
  refine (macs_walk A0 c0 xs0 A1 c1 xs1 W (table hL) hx0 hm0.1 (by omega) hx1 hm1.1 (by omega)).mono fun e W' ⟨he, hg⟩ => ?_
  subst he
  exact ⟨_, rfl, law_end laidOut (by kernel_rfl) (by kernel_rfl) Tryd.underlying4 rfl hW' ⟨rfl, rfl, rfl⟩ hg⟩

theorem hashMacs_met (os : Os) : laidMet Tryd.prog Rows.hashMacsRow.laid ((laidWorld os).forCall (fun _ _ => 0) ⟨#[], #[.slice none 0 0, .slice none 0 0], []⟩).memory :=
  laidMet_of_run' 8 (by kernel_rfl) (by kernel_rfl)
theorem hashMacs_reads (os : Os) {H : Type} (enc : TypeId × Value → H) : ∃ places, DataW.whole enc Tryd.prog ((laidWorld os).forCall (fun _ _ => 0) ⟨#[], #[.slice none 0 0, .slice none 0 0], []⟩).memory Tryd.f5.params.toList Rows.hashMacsSpec.vars false (#[.slice none 0 0, .slice none 0 0] : Array Value).toList 8 = some ([.nil, .nil], [], places) :=
  ⟨[], by kernel_rfl⟩

set_option maxRecDepth 100000 in
theorem hashMacs_lifted (os : Os) (started : os.Started) (H : Type) (enc : TypeId × Value → H) (F : Stop.Interp) :
    ReturnsInHanded {} Tryd.checked os 5 .any ((OpenSpec.ofChange Rows.hashMacsSpec).preRow enc Tryd.prog Tryd.f5 Rows.hashMacsRow.domain false Rows.hashMacsRow.laid) (((OpenSpec.ofChange Rows.hashMacsSpec).at F).post enc Tryd.prog Tryd.f5 false true false false) := by
  obtain ⟨places, hx⟩ := hashMacs_reads os enc
  refine returnsInHanded_of_row (C := Tryd.checked) (s := OpenSpec.ofChange Rows.hashMacsSpec) ownKn started (by kernel_rfl) Tryd.func5
    (witness_row_at (enc := enc) (C := Tryd.checked) false (laidWorld os) #[.slice none 0 0, .slice none 0 0] rfl (by kernel_rfl) (by kernel_rfl) (by kernel_rfl)
      (OpenSpec.preRow_of_cond 8 hx (by kernel_rfl) (fun k hk => by cases hk) (by kernel_rfl) (hashMacs_met os))) ?_
  intro W base args ds gs before hval hW _ _ _ hL _ _
  exact hashMacs_contract H enc W base args ds gs before hval hW hL

theorem hashMacs_said : Rows.HashMacsSaid :=
  OpenClaim.holds_of_cond 5 Tryd.f5 rfl rfl rfl rfl rfl rfl rfl ⟨rfl, rfl, rfl, rfl, rfl⟩ rfl rfl rfl rfl rfl (by kernel_rfl) Tryd.func5 (by kernel_rfl)
    (of_decide_eq_true (by kernel_rfl)) (by unfold Func.isWrapper; first | (rw [if_pos (by decide +kernel)]; kernel_rfl) | (rw [if_neg (by decide +kernel)]; exact ⟨rfl, rfl⟩))
    (fun os started H enc _ F => by rw [OpenClaim.pre_eq_preRow]; exact hashMacs_lifted os started H enc F)

theorem hashMacs_plain (f : FuncId) (fn : Func) (hf : Tryd.pinned.checked.prog.funcNamed "manometer/manometerlaw03.HashMacs" = some f) (hfn : Tryd.pinned.checked.prog.funcs[f]? = some fn) :
    false = Tryd.pinned.checked.prog.looks [] ∧ ∀ (j : Nat) t, fn.params[j]? = some t → Tryd.pinned.checked.prog.wantsStandIn t = false := by
  obtain rfl : f = 5 := Option.some.inj ((show Tryd.prog.funcNamed "manometer/manometerlaw03.HashMacs" = some 5 by kernel_rfl).symm.trans hf) |>.symm
  obtain rfl : fn = Tryd.f5 := (Option.some.inj (Tryd.func5.symm.trans hfn)).symm
  refine ⟨by kernel_rfl, fun j t ht => ?_⟩
  rw [Tryd.params5] at ht
  have hm : t = 28 ∨ t = 22 := by simpa using Array.mem_of_getElem? ht
  rcases hm with rfl | rfl
  · exact (show Tryd.prog.wantsStandIn 28 = false by kernel_rfl)
  · exact (show Tryd.prog.wantsStandIn 22 = false by kernel_rfl)

theorem hashMacs_card : Rows.HashMacsCardSaid :=
  Claim7.holds_tied_plain_at .later [] _ _ _ _ hashMacs_said (fun _ h => by cases h) (by kernel_rfl) (fun _ h => by cases h) hashMacs_row_tie rfl ⟨rfl, rfl⟩ (by kernel_rfl) rfl hashMacs_plain (by kernel_rfl)
#print axioms hashMacs_card

end
end Go.Proofs.YtmcipmcilaonbaaDoor
