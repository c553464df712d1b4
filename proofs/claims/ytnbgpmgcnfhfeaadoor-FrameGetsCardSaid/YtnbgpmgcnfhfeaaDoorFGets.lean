/-
  FrameGets (P2.3): for every bytes the frame that they begin with, or what is wrong with it first, is the plain answers'; what is told is memory of its own. The condition is the table's: it holds what its initialiser lays, which the card ties to the program's text.
-/
import Derived.Test.YtnbgpmgcnfhfeaaDoorFt
import Derived.Test.YtnbgpmgcnfhfeaaDoorFh
namespace Go.Proofs.YtnbgpmgcnfhfeaaDoor
set_option linter.unusedVariables false
set_option linter.unusedSimpArgs false
open Go.ChangeShapes Go.WideShapes Go.ChangeAt Go.RowKit

section
set_option maxHeartbeats 1600000
set_option maxRecDepth 100000
theorem fgets_walk (A : Option Addr) (ca : Nat) (xs : List UInt8) (w : World) (ht : StepsMet w) (hx : Rd w A (xs.map Bv)) (hc : xs.length ≤ ca) (hca : ca ≤ 9223372036854775807) :
    Calls Tryd.prog 6 #[.slice A xs.length ca] w fun e w' => e = .returned (.bool true) ∧ Below w.heap.size w w' := by
  have HT := Lib.hid ht; clear ht
  go_enter Tryd.func6, Tryd.ntmps6
  go_wp2_with fail
  refine (live_any _ HT.out).mono ?_
  rintro e w1 ⟨rfl, hb1⟩
  have hx1 := hx.below hb1
  have HT1 := Lib.hid (HT.out.below hb1)
  clear hx HT
  by_cases h1 : (xs.length : Int) ≤ 4000
  · go_wp2_with fail
    refine (join_one w1 A ca xs hx1 (by omega)).mono ?_
    rintro e w2 ⟨v, rfl, hown2, hb2⟩
    obtain ⟨Ao, co, rfl, rdo, hAo, hco, hcm⟩ := own_rd hown2
    unfold maxLen at hcm
    have hx2 := hx1.below hb2
    have HT2 := Lib.hid (HT1.out.below hb2)
    have hs1 := hb1.size
    have hb2' := hb1.trans (hb2.mono hs1)
    clear hx1 HT1 hb1 hb2 hAo
    go_wp2_with fail
    refine (get_any Ao co xs w2 HT2.out rdo hco (by omega) (by omega)).mono ?_
    rintro e w3 ⟨v3, rfl, own3, hb3⟩
    obtain ⟨A3, c3, rfl, rd3, hA3, -⟩ := own_rd own3
    have hx3 := hx2.below hb3
    have rdo3 := rdo.below hb3
    have hown3 := own_moved hown2 fun g hg => hb3.block g (hown2.lt g hg).2
    have hn3 : ∀ g, A3.map (·.block) = some g → w2.heap.size ≤ g := fun g hg => (own3.lt g (by rw [← hA3]; exact hg)).1
    have ho3 : ∀ g, (Value.slice Ao xs.length co).ownBlock = some g → w1.heap.size ≤ g ∧ g < w2.heap.size := fun g hg => ⟨by have := (hown2.lt g hg).1; omega, (hown2.lt g hg).2⟩
    have hb3' := hb2'.trans (hb3.mono hb2'.size)
    clear hx2 HT2 hb2' rdo own3 hA3 hown2
    obtain ⟨r, hr⟩ : ∃ r, r = getF xs := ⟨_, rfl⟩
    rw [← hr] at rd3 ⊢
    have HR := Lib.hid hr; clear hr
    obtain ⟨zs, m, c⟩ := r
    simp only at rd3 ⊢
    go_wp2_with fail
    refine (rget_any A ca xs w3 hx3 hc (by omega) hca).mono ?_
    rintro e w4 ⟨v4, rfl, own4, hb4⟩
    rw [← HR.out] at own4 ⊢
    simp only at own4 ⊢
    obtain ⟨A4, c4, rfl, rd4, hA4, -⟩ := own_rd own4
    have hn4 : ∀ g, A4.map (·.block) = some g → w3.heap.size ≤ g := fun g hg => (own4.lt g (by rw [← hA4]; exact hg)).1
    have hx4 := hx3.below hb4
    have rdo4 := rdo3.below hb4
    have rd34 := rd3.below hb4
    have hown4 := own_moved hown3 fun g hg => hb4.block g (hown3.lt g hg).2
    have hb4' := hb3'.trans (hb4.mono hb3'.size)
    have hs3 := hb3.size
    clear hx3 rdo3 rd3 hown3 hb3 hb4 hb3' own4 hA4
    go_wp2_with fail
    refine (equal_yes Ao A co ca _ _ xs xs w4 rfl rfl rfl rdo4 hx4 (by omega)).mono ?_
    rintro e w5 ⟨rfl, nn, rfl⟩
    have hb5 := below_drewN hb4' nn
    have hown5 : (w4.drewN nn).ownsRow _ _ _ _ _ _ := hown4
    have rd35 := rd34.drewN nn
    have rd45 := rd4.drewN nn
    generalize w4.drewN nn = w5 at *
    clear rdo4 hx4 hb4' hown4 rd34 rd4
    have hzl : zs.length ≤ 4000 := by
      have h := getF_len xs
      rw [← HR.out] at h
      simp only at h
      omega
    go_wp2_with fail
    go_loopw [40] (fun i wr => ∃ (k : Nat) (ys : List UInt8), k ≤ xs.length ∧ ys.length = xs.length ∧ i = .int .i64 k ∧ wr.ownsRow (w1.heap.size + 1) 5 1 (.slice Ao xs.length co) xs.length (ys.map Bv) ∧ Mv (fun g => (Value.slice Ao xs.length co).ownBlock = some g) w5 wr) (fun i _ => xs.length - (intOf i).toNat)
    case atStart => exact ⟨0, xs, by omega, rfl, rfl, hown5, Mv.refl _ _⟩
    case round =>
      obtain ⟨k, ys, hk, hyl, rfl, hown, hm⟩ := hrel
      by_cases hlt : k < xs.length
      · obtain ⟨g, hg⟩ : ∃ g, Ao = some ⟨g, 0, none⟩ := by
          rcases hown.2 with ⟨h, _⟩ | ⟨g, cap, cur, h, _⟩
          · injection h with h1 h2 h3; omega
          · injection h with h1 h2 h3; exact ⟨g, h1⟩
        subst hg
        have hky : k < ys.length := by omega
        have hcy := hown.cells (g := g) rfl k (Bv ys[k]) (by simp [hky])
        have hfr : wr.frozen? ⟨g, k, none⟩ = false := hown.frozenAt k
        rw [show (⟨g, 0, none⟩ : Addr).add k = ⟨g, k, none⟩ from by unfold Addr.add; split <;> simp_all] at hcy
        simp only [Bv_def] at hcy
        have hsto := hown.stored k (Bv (UInt8.ofNat ((ys[k].toNat + 1) % 256)))
        rw [← List.map_set] at hsto
        have HSO := Lib.hid hsto; clear hsto
        have HYL := Lib.hid hyl; clear hyl
        have hy256 := ys[k].toNat_lt
        generalize ys[k].toNat = y at *
        have hwr : IntKind.u8.wrap ((y : Int) + 1) = (((y + 1) % 256 : Nat) : Int) := by rw [IntKind.wrap_u8]; omega
        have hz : (y + 1) % 256 < 256 := Nat.mod_lt _ (by omega)
        generalize (y + 1) % 256 = z at *
        have HZ := Lib.hid hz; clear hz
        go_wp2
        go_roundw
        case rel =>
          refine ⟨k + 1, ys.set k (UInt8.ofNat z), by omega, by rw [List.length_set]; exact HYL.out, by go_num, ?_, ?_⟩
          · rw [byte_of (n := z) rfl HZ.out]; exact HSO.out.1
          · rw [byte_of (n := z) rfl HZ.out]; exact hm.grown HSO.out.2 (fun _ _ h => h)
        case measure => simp [intOf]; omega
      · have hb6 := hb5.trans (hm.belowB hb5.size fun j hj hs => by have := ho3 j hs; omega)
        have rd36 := hm.rd rd35 (fun g hg hA hs => by have := hn3 g hA; have := ho3 g hs; omega)
        have rd46 := hm.rd rd45 (fun g hg hA hs => by have := hn4 g hA; have := ho3 g hs; omega)
        clear hm hown hown5 rd35 rd45 hyl
        go_wp2_with fail
        refine (equal_yes A3 A4 c3 c4 _ _ zs zs wr rfl rfl rfl rd36 rd46 (by omega)).mono ?_
        rintro e w7 ⟨rfl, n7, rfl⟩
        go_wp2
        go_ret
        exact ⟨rfl, below_drewN hb6 n7⟩
  · have h1' : decide (4000 < (xs.length : Int)) = true := by simp; omega
    clear h1
    go_wp2_with fail
    refine (live_any _ HT1.out).mono ?_
    rintro e w2 ⟨rfl, hb2⟩
    go_wp2
    go_ret
    exact ⟨rfl, hb1.trans (hb2.mono hb1.size)⟩

theorem frameGets_contract (H : Type) (enc : TypeId × Value → H) (W : World) (base : Nat) (args : Array Value) (ds gs : List (DataW H)) (before : List MemPlace)
    (hval : ∀ (j : Nat) t v, Tryd.f6.params[j]? = some t → args[j]? = some v → Value.okWide Tryd.prog W .any base t v)
    (hW : DataW.Whole enc Tryd.prog Tryd.f6.params.toList Rows.frameGetsSpec.vars false W args.toList ds gs before) (hL : laidMetH Tryd.prog Rows.frameGetsRow.laid W) :
    Calls Tryd.prog 6 args W fun e W' => ∃ v, e = .returned v ∧ Rows.frameGetsSpec.post enc Tryd.prog Tryd.f6 false true false false W args v W' := by
  have hW' := hW
  obtain ⟨p, q, hA0, hV, rfl, hfz, hnd⟩ := hW
  have hA : DataW.TrodAll enc Tryd.prog W 0 (fun _ => true) true Tryd.f6.params.toList args.toList ds p := hA0
  rw [Tryd.params6] at hA hval
  obtain ⟨v0, vs0, d0, ds0, p0, q0, hargs, rfl, rfl, h0, r0⟩ := trodAll_cons hA
  obtain ⟨rfl, rfl, rfl⟩ := trodAll_nil r0
  obtain rfl : args = #[v0] := by cases args; simp_all
  obtain ⟨rfl, rfl⟩ := trodVars_none hV
  obtain ⟨A0, c0, xs0, rfl, hm0, hx0⟩ := open_bytes Tryd.underlying23 Tryd.underlying5 (by kernel_rfl) (hval 0 23 v0 rfl rfl) h0
  clear hA0 hA
  unfold maxLen at hm0
  refine (fgets_walk A0 c0 xs0 W (table hL) hx0 (by omega) (by omega)).mono fun e W' ⟨he, hg⟩ => ?_
  subst he
  exact ⟨_, rfl, law_end laidOut (by kernel_rfl) (by kernel_rfl) Tryd.underlying4 rfl hW' ⟨rfl, rfl, rfl⟩ hg⟩

theorem frameGets_met (os : Os) : laidMet Tryd.prog Rows.frameGetsRow.laid ((laidWorld os).forCall (fun _ _ => 0) ⟨#[], #[.slice none 0 0], []⟩).memory :=
  laidMet_of_run' 8 (by kernel_rfl) (by kernel_rfl)
theorem frameGets_reads (os : Os) {H : Type} (enc : TypeId × Value → H) : ∃ places, DataW.whole enc Tryd.prog ((laidWorld os).forCall (fun _ _ => 0) ⟨#[], #[.slice none 0 0], []⟩).memory Tryd.f6.params.toList Rows.frameGetsSpec.vars false (#[.slice none 0 0] : Array Value).toList 8 = some ([.nil], [], places) :=
  ⟨[], by kernel_rfl⟩

set_option maxRecDepth 100000 in
theorem frameGets_lifted (os : Os) (started : os.Started) (H : Type) (enc : TypeId × Value → H) (F : Stop.Interp) :
    ReturnsInHanded {} Tryd.checked os 6 .any ((OpenSpec.ofChange Rows.frameGetsSpec).preRow enc Tryd.prog Tryd.f6 Rows.frameGetsRow.domain false Rows.frameGetsRow.laid) (((OpenSpec.ofChange Rows.frameGetsSpec).at F).post enc Tryd.prog Tryd.f6 false true false false) := by
  obtain ⟨places, hx⟩ := frameGets_reads os enc
  refine returnsInHanded_of_row (C := Tryd.checked) (s := OpenSpec.ofChange Rows.frameGetsSpec) ownKn started (by kernel_rfl) Tryd.func6
    (witness_row_at (enc := enc) (C := Tryd.checked) false (laidWorld os) #[.slice none 0 0] rfl (by kernel_rfl) (by kernel_rfl) (by kernel_rfl)
      (OpenSpec.preRow_of_cond 8 hx (by kernel_rfl) (fun k hk => by cases hk) (by kernel_rfl) (frameGets_met os))) ?_
  intro W base args ds gs before hval hW _ _ _ hL _ _
  exact frameGets_contract H enc W base args ds gs before hval hW hL

theorem frameGets_said : Rows.FrameGetsSaid :=
  OpenClaim.holds_of_cond 6 Tryd.f6 rfl rfl rfl rfl rfl rfl rfl ⟨rfl, rfl, rfl, rfl, rfl⟩ rfl rfl rfl rfl rfl (by kernel_rfl) Tryd.func6 (by kernel_rfl)
    (of_decide_eq_true (by kernel_rfl)) (by unfold Func.isWrapper; first | (rw [if_pos (by decide +kernel)]; kernel_rfl) | (rw [if_neg (by decide +kernel)]; exact ⟨rfl, rfl⟩))
    (fun os started H enc _ F => by rw [OpenClaim.pre_eq_preRow]; exact frameGets_lifted os started H enc F)

theorem frameGets_plain (f : FuncId) (fn : Func) (hf : Tryd.pinned.checked.prog.funcNamed "manometer/manometerlaw02.FrameGets" = some f) (hfn : Tryd.pinned.checked.prog.funcs[f]? = some fn) :
    false = Tryd.pinned.checked.prog.looks [] ∧ ∀ (j : Nat) t, fn.params[j]? = some t → Tryd.pinned.checked.prog.wantsStandIn t = false := by
  obtain rfl : f = 6 := Option.some.inj ((show Tryd.prog.funcNamed "manometer/manometerlaw02.FrameGets" = some 6 by kernel_rfl).symm.trans hf) |>.symm
  obtain rfl : fn = Tryd.f6 := (Option.some.inj (Tryd.func6.symm.trans hfn)).symm
  refine ⟨by kernel_rfl, fun j t ht => ?_⟩
  rw [Tryd.params6] at ht
  have hm : t = 23 := by simpa using Array.mem_of_getElem? ht
  rcases hm with rfl
  · exact (show Tryd.prog.wantsStandIn 23 = false by kernel_rfl)

theorem frameGets_card : Rows.FrameGetsCardSaid :=
  Claim7.holds_tied_plain_at .later [] _ _ _ _ frameGets_said (fun _ h => by cases h) (by kernel_rfl) (fun _ h => by cases h) frameGets_row_tie rfl ⟨rfl, rfl⟩ (by kernel_rfl) rfl frameGets_plain (by kernel_rfl)
#print axioms frameGets_card
end
end Go.Proofs.YtnbgpmgcnfhfeaaDoor
