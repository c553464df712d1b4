/-
  FrameBack (P2.5): for every rows of bytes what was put is got, whatever stands behind, and frames one behind the other are all got. The condition is the table's: it holds what its initialiser lays, which the card ties to the program's text.
-/
import Derived.Test.YtnbgpmgcnfhfeaaDoorFn
namespace Go.Proofs.YtnbgpmgcnfhfeaaDoor
set_option linter.unusedVariables false
set_option linter.unusedSimpArgs false
open Go.ChangeShapes Go.WideShapes Go.ChangeAt Go.RowKit

section
set_option maxHeartbeats 1600000
set_option maxRecDepth 100000
theorem fback_walk (A B : Option Addr) (ca cb : Nat) (P : List (Option Addr × Nat × List UInt8)) (ys : List UInt8) (w : World) (ht : StepsMet w) (hA : RowsRd w A P) (hy : Rd w B (ys.map Bv)) (hlp : P.length ≤ 9223372036854775807) (hly : ys.length ≤ 9223372036854775807) :
    Calls Tryd.prog 8 #[.slice A P.length ca, .slice B ys.length cb] w fun e w' => e = .returned (.bool true) ∧ Below w.heap.size w w' := by
  have HT := Lib.hid ht; clear ht
  go_enter Tryd.func8, Tryd.ntmps8
  go_wp2_with fail
  refine (live_any _ HT.out).mono ?_
  rintro e w1 ⟨rfl, hb1⟩
  have hA1 := hA.below hb1
  have hy1 := hy.below hb1
  have HT1 := Lib.hid (HT.out.below hb1)
  clear hA hy HT
  go_wp2_with fail
  refine (few_any A ca P w1 hA1 hlp).mono ?_
  rintro e w2 ⟨few, rfl, rfl, hfew⟩
  cases few with
  | false =>
    clear hfew
    go_wp2_with fail
    refine (live_any _ HT1.out).mono ?_
    rintro e w3 ⟨rfl, hb3⟩
    go_wp2
    go_ret
    exact ⟨rfl, hb1.trans (hb3.mono hb1.size)⟩
  | true =>
    obtain ⟨hp1, hp2⟩ := hfew rfl
    clear hfew
    by_cases h4 : (ys.length : Int) ≤ 4000
    · go_wp2_with fail
      refine (laid_any A ca P w1 HT1.out hA1 hp1 hp2).mono ?_
      rintro e w2 ⟨v2, rfl, own2, hb2⟩
      obtain ⟨A2, c2, rfl, rd2, -, hc2, hcm⟩ := own_rd own2
      unfold maxLen at hcm
      have hA2 := hA1.below hb2
      have hy2 := hy1.below hb2
      have HT2 := Lib.hid (HT1.out.below hb2)
      have hb2' := hb1.trans (hb2.mono hb1.size)
      clear own2 hb2 hA1 hy1 HT1 hb1
      have hll : ∀ p ∈ P, p.2.2.length ≤ 4000 := by
        intro p hp
        have h1 : p.2.2.length ≤ (joined P).length := by
          unfold joined
          obtain ⟨s, t, rfl⟩ := List.append_of_mem hp
          simp only [List.flatMap_append, List.flatMap_cons, List.length_append]; omega
        omega
      have hlm : ∀ l ∈ P.map (·.2.2), l.length ≤ 1048576 := by
        intro l hl
        obtain ⟨p, hp, rfl⟩ := List.mem_map.1 hl
        have := hll p hp; omega
      have hfl := framesF_len (P.map (·.2.2)) hlm
      rw [← joined_flat, List.length_map] at hfl
      have haf := allF_frames (P.map (·.2.2)) hlm
      obtain ⟨fs, hfs⟩ : ∃ fs, fs = framesF (P.map (·.2.2)) := ⟨_, rfl⟩
      rw [← hfs] at rd2 hc2 hfl haf ⊢
      have hf5 : fs.length ≤ 5400 := by omega
      have HAF := Lib.hid haf; clear haf hfl
      have HFS := Lib.hid hfs; clear hfs
      have HLL := Lib.hid hll; clear hll hlm
      go_wp2_with fail
      refine (all_any A2 c2 fs w2 HT2.out rd2 hc2 (by omega) (by omega)).mono ?_
      rintro e w3 ⟨v3, Q, rfl, hQ, hQd, hb3⟩
      rw [HAF.out] at hQd ⊢
      simp only at hQd ⊢
      obtain ⟨A3, c3, rfl, -⟩ := own_rd hQ.1
      obtain ⟨q1, q2⟩ := hQ.rd
      have hA3 := hA2.below hb3
      have hy3 := hy2.below hb3
      have rd3 := rd2.below hb3
      have HT3 := Lib.hid (HT2.out.below hb3)
      have hb3' := hb2'.trans (hb3.mono hb2'.size)
      have hQl : Q.length = P.length := by have := congrArg List.length hQd; simpa using this
      have HQD := Lib.hid hQd; clear hQd
      have HQL := Lib.hid hQl; clear hQl
      clear hA2 hy2 rd2 HT2 hb3 hb2' hQ
      have HQ2 := Lib.hid q2; clear q2
      go_wp2_with fail
      refine (same_yes A3 A c3 ca Q P w3 HQD.out q1 hA3.1 HQ2.out (fun p hp => (hA3.2 p hp).1) (by rw [HQL.out]; omega) ?_).mono ?_
      · intro p hp
        have : p.2.2 ∈ P.map (·.2.2) := by rw [← HQD.out]; exact List.mem_map.2 ⟨p, hp, rfl⟩
        obtain ⟨p', hp', e'⟩ := List.mem_map.1 this
        have := HLL.out p' hp'
        rw [e'] at this
        omega
      rintro e w4 ⟨rfl, nn, rfl⟩
      have hA4 := hA3.drewN nn
      have hy4 := hy3.drewN nn
      have rd4 := rd3.drewN nn
      have hb4 := below_drewN hb3' nn
      have HT4 := Lib.hid (show StepsMet (w3.drewN nn) from HT3.out)
      generalize w3.drewN nn = w4 at *
      clear hA3 hy3 rd3 hb3' HT3 q1 HQ2 HQD HQL
      by_cases hz : P.length = 0
      · have hz' : ((P.length : Int) == 0) = true := by rw [beq_iff_eq]; omega
        clear hz
        go_wp2
        go_ret
        exact ⟨rfl, hb4⟩
      · have hz' : ((P.length : Int) == 0) = false := by rw [beq_eq_false_iff_ne]; omega
        have h0 : 0 < P.length := by omega
        clear hz
        go_wp2_with fail
        refine (join_two_own w4 A2 B c2 cb fs ys rd4 hy4 (by omega)).mono ?_
        rintro e w5 ⟨v5, rfl, own5, hb5⟩
        obtain ⟨C, cc, rfl, rd5, -, hcc, hccm⟩ := own_rd own5
        unfold maxLen at hccm
        have hA5 := hA4.below hb5
        have HT5 := Lib.hid (HT4.out.below hb5)
        have hb5' := hb4.trans (hb5.mono hb4.size)
        clear own5 hA4 hy4 rd4 HT4 hb4 hb5
        obtain ⟨b, off, rfl, q0⟩ := hA5.1 0 (partV P[0]) (by simp [h0])
        have hp0 := hA5.2 P[0] (List.getElem_mem h0)
        have hpl := HLL.out P[0] (List.getElem_mem h0)
        have hfs : fs ++ ys = frameF P[0].2.2 ++ (framesF ((P.drop 1).map (·.2.2)) ++ ys) := by
          have hd : P = P[0] :: P.drop 1 := by have := List.drop_eq_getElem_cons h0; simpa using this
          rw [HFS.out]
          conv => lhs; rw [hd]
          rw [List.map_cons, framesF_cons, List.append_assoc]
        have hl2 : (fs ++ ys).length ≤ 10000 := by rw [List.length_append]; omega
        obtain ⟨gs, hgs⟩ : ∃ gs, gs = fs ++ ys := ⟨_, rfl⟩
        rw [← hgs] at rd5 hcc hfs hl2 ⊢
        have hgf : getF gs = (P[0].2.2, (frameF P[0].2.2).length, 0) := by rw [hfs]; exact getF_frame _ _ (by omega)
        clear hfs hgs HLL HFS HAF
        generalize P[0] = p at *
        obtain ⟨Ap, cp, xs⟩ := p
        simp only [partV] at q0 hp0 hpl hgf
        have hsz := sizeF_frame xs (by omega)
        rw [← hsz] at hgf
        obtain ⟨z, hz⟩ : ∃ z, z = sizeF (xs.length : Int) := ⟨_, rfl⟩
        rw [← hz] at hgf
        clear hsz
        have HZ := Lib.hid hz; clear hz
        have HGF := Lib.hid hgf; clear hgf
        have hx5 := hp0.1
        clear hp0 hA5
        go_wp2_with fail
        refine (get_any C cc gs w5 HT5.out rd5 hcc (by omega) (by omega)).mono ?_
        rintro e w6 ⟨v6, rfl, own6, hb6⟩
        rw [HGF.out] at own6 ⊢
        simp only at own6 ⊢
        obtain ⟨A6, c6, rfl, rd6, -⟩ := own_rd own6
        have hx6 := hx5.below hb6
        have q6 : w6.cell? ⟨b, off + 0, none⟩ = some (.slice Ap xs.length cp) := (hb6.cell (p := ⟨b, off + 0, none⟩) (World.block_lt_of_cell? w5 _ q0)).trans q0
        rw [Nat.add_zero] at q6
        have hb6' := hb5'.trans (hb6.mono hb5'.size)
        clear own6 hx5 q0 rd5 hb5' hb6 HT5
        go_wp2_with fail
        refine (equal_yes A6 Ap c6 cp _ _ xs xs w6 rfl rfl rfl rd6 hx6 (by omega)).mono ?_
        rintro e w7 ⟨rfl, n7, rfl⟩
        have q7 : (w6.drewN n7).cell? ⟨b, off, none⟩ = some (.slice Ap xs.length cp) := q6
        have hb7 := below_drewN hb6' n7
        generalize w6.drewN n7 = w7 at *
        clear q6 rd6 hx6 hb6'
        go_wp2_with fail
        refine (size_any xs.length w7).mono ?_
        rintro e w8 ⟨rfl, hb8⟩
        rw [← HZ.out]
        have hb8' := hb7.trans (hb8.mono hb7.size)
        go_wp2
        go_ret
        exact ⟨rfl, hb8'⟩
    · have h4' : decide (4000 < (ys.length : Int)) = true := by simp; omega
      clear h4
      go_wp2_with fail
      refine (live_any _ HT1.out).mono ?_
      rintro e w3 ⟨rfl, hb3⟩
      go_wp2
      go_ret
      exact ⟨rfl, hb1.trans (hb3.mono hb1.size)⟩

theorem frameBack_contract (H : Type) (enc : TypeId × Value → H) (W : World) (base : Nat) (args : Array Value) (ds gs : List (DataW H)) (before : List MemPlace)
    (hval : ∀ (j : Nat) t v, Tryd.f8.params[j]? = some t → args[j]? = some v → Value.okWide Tryd.prog W .any base t v)
    (hW : DataW.Whole enc Tryd.prog Tryd.f8.params.toList Rows.frameBackSpec.vars false W args.toList ds gs before) (hL : laidMetH Tryd.prog Rows.frameBackRow.laid W) :
    Calls Tryd.prog 8 args W fun e W' => ∃ v, e = .returned v ∧ Rows.frameBackSpec.post enc Tryd.prog Tryd.f8 false true false false W args v W' := by
  have hW' := hW
  obtain ⟨p, q, hA0, hV, rfl, hfz, hnd⟩ := hW
  have hA : DataW.TrodAll enc Tryd.prog W 0 (fun _ => true) true Tryd.f8.params.toList args.toList ds p := hA0
  rw [Tryd.params8] at hA hval
  obtain ⟨v0, vs0, d0, ds0, p0, q0, hargs, rfl, rfl, h0, r0⟩ := trodAll_cons hA
  obtain ⟨v1, vs1, d1, ds1, p1, q1, rfl, rfl, rfl, h1, r1⟩ := trodAll_cons r0
  obtain ⟨rfl, rfl, rfl⟩ := trodAll_nil r1
  obtain rfl : args = #[v0, v1] := by cases args; simp_all
  obtain ⟨rfl, rfl⟩ := trodVars_none hV
  obtain ⟨A0, c0, xs0, rfl, hm0, hx0⟩ := open_rows (hval 0 40 v0 rfl rfl) h0
  obtain ⟨A1, c1, xs1, rfl, hm1, hx1⟩ := open_bytes Tryd.underlying23 Tryd.underlying5 (by kernel_rfl) (hval 1 23 v1 rfl rfl) h1
  clear hA0 hA
  unfold maxLen at hm0
  unfold maxLen at hm1
  refine (fback_walk A0 A1 c0 c1 xs0 xs1 W (table hL) hx0 hx1 (by omega) (by omega)).mono fun e W' ⟨he, hg⟩ => ?_
  subst he
  exact ⟨_, rfl, law_end laidOut (by kernel_rfl) (by kernel_rfl) Tryd.underlying4 rfl hW' ⟨rfl, rfl, rfl⟩ hg⟩

theorem frameBack_met (os : Os) : laidMet Tryd.prog Rows.frameBackRow.laid ((laidWorld os).forCall (fun _ _ => 0) ⟨#[], #[.slice none 0 0, .slice none 0 0], []⟩).memory :=
  laidMet_of_run' 8 (by kernel_rfl) (by kernel_rfl)
theorem frameBack_reads (os : Os) {H : Type} (enc : TypeId × Value → H) : ∃ places, DataW.whole enc Tryd.prog ((laidWorld os).forCall (fun _ _ => 0) ⟨#[], #[.slice none 0 0, .slice none 0 0], []⟩).memory Tryd.f8.params.toList Rows.frameBackSpec.vars false (#[.slice none 0 0, .slice none 0 0] : Array Value).toList 8 = some ([.nil, .nil], [], places) :=
  ⟨[], by kernel_rfl⟩

set_option maxRecDepth 100000 in
theorem frameBack_lifted (os : Os) (started : os.Started) (H : Type) (enc : TypeId × Value → H) (F : Stop.Interp) :
    ReturnsInHanded {} Tryd.checked os 8 .any ((OpenSpec.ofChange Rows.frameBackSpec).preRow enc Tryd.prog Tryd.f8 Rows.frameBackRow.domain false Rows.frameBackRow.laid) (((OpenSpec.ofChange Rows.frameBackSpec).at F).post enc Tryd.prog Tryd.f8 false true false false) := by
  obtain ⟨places, hx⟩ := frameBack_reads os enc
  refine returnsInHanded_of_row (C := Tryd.checked) (s := OpenSpec.ofChange Rows.frameBackSpec) ownKn started (by kernel_rfl) Tryd.func8
    (witness_row_at (enc := enc) (C := Tryd.checked) false (laidWorld os) #[.slice none 0 0, .slice none 0 0] rfl (by kernel_rfl) (by kernel_rfl) (by kernel_rfl)
      (OpenSpec.preRow_of_cond 8 hx (by kernel_rfl) (fun k hk => by cases hk) (by kernel_rfl) (frameBack_met os))) ?_
  intro W base args ds gs before hval hW _ _ _ hL _ _
  exact frameBack_contract H enc W base args ds gs before hval hW hL

theorem frameBack_said : Rows.FrameBackSaid :=
  OpenClaim.holds_of_cond 8 Tryd.f8 rfl rfl rfl rfl rfl rfl rfl ⟨rfl, rfl, rfl, rfl, rfl⟩ rfl rfl rfl rfl rfl (by kernel_rfl) Tryd.func8 (by kernel_rfl)
    (of_decide_eq_true (by kernel_rfl)) (by unfold Func.isWrapper; first | (rw [if_pos (by decide +kernel)]; kernel_rfl) | (rw [if_neg (by decide +kernel)]; exact ⟨rfl, rfl⟩))
    (fun os started H enc _ F => by rw [OpenClaim.pre_eq_preRow]; exact frameBack_lifted os started H enc F)

theorem frameBack_plain (f : FuncId) (fn : Func) (hf : Tryd.pinned.checked.prog.funcNamed "manometer/manometerlaw02.FrameBack" = some f) (hfn : Tryd.pinned.checked.prog.funcs[f]? = some fn) :
    false = Tryd.pinned.checked.prog.looks [] ∧ ∀ (j : Nat) t, fn.params[j]? = some t → Tryd.pinned.checked.prog.wantsStandIn t = false := by
  obtain rfl : f = 8 := Option.some.inj ((show Tryd.prog.funcNamed "manometer/manometerlaw02.FrameBack" = some 8 by kernel_rfl).symm.trans hf) |>.symm
  obtain rfl : fn = Tryd.f8 := (Option.some.inj (Tryd.func8.symm.trans hfn)).symm
  refine ⟨by kernel_rfl, fun j t ht => ?_⟩
  rw [Tryd.params8] at ht
  have hm : t = 40 ∨ t = 23 := by simpa using Array.mem_of_getElem? ht
  rcases hm with rfl | rfl
  · exact (show Tryd.prog.wantsStandIn 40 = false by kernel_rfl)
  · exact (show Tryd.prog.wantsStandIn 23 = false by kernel_rfl)

theorem frameBack_card : Rows.FrameBackCardSaid :=
  Claim7.holds_tied_plain_at .later [] _ _ _ _ frameBack_said (fun _ h => by cases h) (by kernel_rfl) (fun _ h => by cases h) frameBack_row_tie rfl ⟨rfl, rfl⟩ (by kernel_rfl) rfl frameBack_plain (by kernel_rfl)
#print axioms frameBack_card
end
end Go.Proofs.YtnbgpmgcnfhfeaaDoor
