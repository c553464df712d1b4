/-
  HashFast (P3.4): the sum xxHash64 of any bytes is the plain answers'. The condition is the table's: it holds what its initialiser lays, which the card ties to the program's text.
-/
import Derived.Test.YtmcipmcilaonbaaDoorHt
import Derived.Test.YtmcipmcilaonbaaDoorHq
import Derived.Test.YtmcipmcilaonbaaDoorRy
namespace Go.Proofs.YtmcipmcilaonbaaDoor
set_option linter.unusedVariables false
set_option linter.unusedSimpArgs false
open Go.ChangeShapes Go.WideShapes Go.ChangeAt Go.RowKit

section
set_option maxHeartbeats 1600000
set_option maxRecDepth 100000
theorem rxx_any (w : World) (A : Option Addr) (c n : Nat) (zs : List UInt8) (hm : zs.length = n) (hx : Rd w A (zs.map Bv)) (hmc : n ≤ c) (hc : c ≤ 9223372036854775807) :
    Calls Tryd.prog 35 #[.slice A n c] w fun e w' => e = .returned (.int .u64 (xx zs : Nat)) ∧ Below w.heap.size w w' := by
  by_cases h : n < 32
  · exact rxx_small w A c n zs hm hx hmc hc h
  · exact rxx_large w A c n zs hm hx hmc hc (by omega)
theorem fast_walk (A : Option Addr) (c : Nat) (xs : List UInt8) (w : World) (ht : AddsMet w) (hx : Rd w A (xs.map Bv)) (hlc : xs.length ≤ c) (hcm : c ≤ 9223372036854775807) :
    Calls Tryd.prog 10 #[.slice A xs.length c] w fun e w' => e = .returned (.bool true) ∧ Below w.heap.size w w' := by
  have HT := Lib.hid ht; clear ht
  obtain ⟨n, hn⟩ : ∃ n, n = xs.length := ⟨_, rfl⟩
  rw [← hn] at hlc ⊢
  have HN := Lib.hid hn; clear hn
  go_enter Tryd.func10, Tryd.ntmps10
  go_wp2_with fail
  refine (live_any w HT.out).mono ?_
  rintro e w1 ⟨rfl, hb1⟩
  have hx1 := hx.below hb1
  have hP := parts_one w1 A c n xs HN.out.symm hx1 hlc hcm
  have hb2 := hb1.alloc hb1.size (.cells #[.slice A n c] 28)
  have hx2 := hx1.alloc (.cells #[.slice A n c] 28)
  have hlm : n ≤ 9223372036854775807 := by omega
  go_wp2_with fail
  refine (short_any _ (some ⟨w1.heap.size, 0, none⟩) 1 1 [(A, c, xs)] rfl hP.row (by decide)).mono ?_
  rintro e w2 ⟨rfl, rfl⟩
  generalize w1.alloc (.cells #[.slice A n c] 28) = w2 at *
  cases hs : shortB [(A, c, xs)] with
  | false =>
    clear hs
    go_wp2
    go_ret
    exact ⟨rfl, hb2⟩
  | true =>
    clear hs
    go_wp2_with fail
    refine (xx_any w2 A c n xs HN.out.symm hx2 hlc hcm).mono ?_
    rintro e w3 ⟨rfl, hb3⟩
    have hx3 := hx2.below hb3
    have hb3' := hb2.trans (hb3.mono hb2.size)
    go_wp2_with fail
    refine (rxx_any w3 A c n xs HN.out.symm hx3 hlc hcm).mono ?_
    rintro e w4 ⟨rfl, hb4⟩
    have hb4' := hb3'.trans (hb4.mono hb3'.size)
    go_wp2
    go_ret
    exact ⟨rfl, hb4'⟩

theorem hashFast_contract (H : Type) (enc : TypeId × Value → H) (W : World) (base : Nat) (args : Array Value) (ds gs : List (DataW H)) (before : List MemPlace)
    (hval : ∀ (j : Nat) t v, Tryd.f10.params[j]? = some t → args[j]? = some v → Value.okWide Tryd.prog W .any base t v)
    (hW : DataW.Whole enc Tryd.prog Tryd.f10.params.toList Rows.hashFastSpec.vars false W args.toList ds gs before) (hL : laidMetH Tryd.prog Rows.hashFastRow.laid W) :
    Calls Tryd.prog 10 args W fun e W' => ∃ v, e = .returned v ∧ Rows.hashFastSpec.post enc Tryd.prog Tryd.f10 false true false false W args v W' := by
  have hW' := hW
  obtain ⟨p, q, hA0, hV, rfl, hfz, hnd⟩ := hW
  have hA : DataW.TrodAll enc Tryd.prog W 0 (fun _ => true) true Tryd.f10.params.toList args.toList ds p := hA0
  rw [Tryd.params10] at hA hval
  obtain ⟨v0, vs0, d0, ds0, p0, q0, hargs, rfl, rfl, h0, r0⟩ := trodAll_cons hA
  obtain ⟨rfl, rfl, rfl⟩ := trodAll_nil r0
  obtain rfl : args = #[v0] := by cases args; simp_all
  obtain ⟨rfl, rfl⟩ := trodVars_none hV
  obtain ⟨A0, c0, xs0, rfl, hm0, hx0⟩ := open_bytes Tryd.underlying28 Tryd.underlying5 (by kernel_rfl) (hval 0 28 v0 rfl rfl) h0
  clear hA0 hA
  unfold maxLen at hm0
  refine (fast_walk A0 c0 xs0 W (table hL) hx0 hm0.1 (by omega)).mono fun e W' ⟨he, hg⟩ => ?_
  subst he
  exact ⟨_, rfl, law_end laidOut (by kernel_rfl) (by kernel_rfl) Tryd.underlying4 rfl hW' ⟨rfl, rfl, rfl⟩ hg⟩

theorem hashFast_met (os : Os) : laidMet Tryd.prog Rows.hashFastRow.laid ((laidWorld os).forCall (fun _ _ => 0) ⟨#[], #[.slice none 0 0], []⟩).memory :=
  laidMet_of_run' 8 (by kernel_rfl) (by kernel_rfl)
theorem hashFast_reads (os : Os) {H : Type} (enc : TypeId × Value → H) : ∃ places, DataW.whole enc Tryd.prog ((laidWorld os).forCall (fun _ _ => 0) ⟨#[], #[.slice none 0 0], []⟩).memory Tryd.f10.params.toList Rows.hashFastSpec.vars false (#[.slice none 0 0] : Array Value).toList 8 = some ([.nil], [], places) :=
  ⟨[], by kernel_rfl⟩

set_option maxRecDepth 100000 in
theorem hashFast_lifted (os : Os) (started : os.Started) (H : Type) (enc : TypeId × Value → H) (F : Stop.Interp) :
    ReturnsInHanded {} Tryd.checked os 10 .any ((OpenSpec.ofChange Rows.hashFastSpec).preRow enc Tryd.prog Tryd.f10 Rows.hashFastRow.domain false Rows.hashFastRow.laid) (((OpenSpec.ofChange Rows.hashFastSpec).at F).post enc Tryd.prog Tryd.f10 false true false false) := by
  obtain ⟨places, hx⟩ := hashFast_reads os enc
  refine returnsInHanded_of_row (C := Tryd.checked) (s := OpenSpec.ofChange Rows.hashFastSpec) ownKn started (by kernel_rfl) Tryd.func10
    (witness_row_at (enc := enc) (C := Tryd.checked) false (laidWorld os) #[.slice none 0 0] rfl (by kernel_rfl) (by kernel_rfl) (by kernel_rfl)
      (OpenSpec.preRow_of_cond 8 hx (by kernel_rfl) (fun k hk => by cases hk) (by kernel_rfl) (hashFast_met os))) ?_
  intro W base args ds gs before hval hW _ _ _ hL _ _
  exact hashFast_contract H enc W base args ds gs before hval hW hL

theorem hashFast_said : Rows.HashFastSaid :=
  OpenClaim.holds_of_cond 10 Tryd.f10 rfl rfl rfl rfl rfl rfl rfl ⟨rfl, rfl, rfl, rfl, rfl⟩ rfl rfl rfl rfl rfl (by kernel_rfl) Tryd.func10 (by kernel_rfl)
    (of_decide_eq_true (by kernel_rfl)) (by unfold Func.isWrapper; first | (rw [if_pos (by decide +kernel)]; kernel_rfl) | (rw [if_neg (by decide +kernel)]; exact ⟨rfl, rfl⟩))
    (fun os started H enc _ F => by rw [OpenClaim.pre_eq_preRow]; exact hashFast_lifted os started H enc F)

theorem hashFast_plain (f : FuncId) (fn : Func) (hf : Tryd.pinned.checked.prog.funcNamed "manometer/manometerlaw03.HashFast" = some f) (hfn : Tryd.pinned.checked.prog.funcs[f]? = some fn) :
    false = Tryd.pinned.checked.prog.looks [] ∧ ∀ (j : Nat) t, fn.params[j]? = some t → Tryd.pinned.checked.prog.wantsStandIn t = false := by
  obtain rfl : f = 10 := Option.some.inj ((show Tryd.prog.funcNamed "manometer/manometerlaw03.HashFast" = some 10 by kernel_rfl).symm.trans hf) |>.symm
  obtain rfl : fn = Tryd.f10 := (Option.some.inj (Tryd.func10.symm.trans hfn)).symm
  refine ⟨by kernel_rfl, fun j t ht => ?_⟩
  rw [Tryd.params10] at ht
  have hm : t = 28 := by simpa using Array.mem_of_getElem? ht
  rcases hm with rfl
  · exact (show Tryd.prog.wantsStandIn 28 = false by kernel_rfl)

theorem hashFast_card : Rows.HashFastCardSaid :=
  Claim7.holds_tied_plain_at .later [] _ _ _ _ hashFast_said (fun _ h => by cases h) (by kernel_rfl) (fun _ h => by cases h) hashFast_row_tie rfl ⟨rfl, rfl⟩ (by kernel_rfl) rfl hashFast_plain (by kernel_rfl)
#print axioms hashFast_card

end
end Go.Proofs.YtmcipmcilaonbaaDoor
