/-
  FrameTorn (P2.7): for every rows of bytes and every cut: of their frames that are cut off there just those are whole all of whose bytes are there. The condition is the table's: it holds what its initialiser lays, which the card ties to the program's text.
-/
import Derived.Test.YtnbgpmgcnfhfeaaDoorFn
namespace Go.Proofs.YtnbgpmgcnfhfeaaDoor
set_option linter.unusedVariables false
set_option linter.unusedSimpArgs false
open Go.ChangeShapes Go.WideShapes Go.ChangeAt Go.RowKit

section
set_option maxHeartbeats 1600000
set_option maxRecDepth 100000
theorem ftorn_walk (A : Option Addr) (ca : Nat) (P : List (Option Addr × Nat × List UInt8)) (cut : Int) (w : World) (ht : StepsMet w) (hA : RowsRd w A P) (hlp : P.length ≤ ca) (hca : ca ≤ 9223372036854775807) (hc0 : -9223372036854775808 ≤ cut) (hc1 : cut ≤ 9223372036854775807) :
    Calls Tryd.prog 10 #[.slice A P.length ca, .int .i64 cut] w fun e w' => e = .returned (.bool true) ∧ Below w.heap.size w w' := by
  have HT := Lib.hid ht; clear ht
  go_enter Tryd.func10, Tryd.ntmps10
  go_wp2_with fail
  refine (live_any _ HT.out).mono ?_
  rintro e w1 ⟨rfl, hb1⟩
  have hA1 := hA.below hb1
  have HT1 := Lib.hid (HT.out.below hb1)
  clear hA HT
  go_wp2_with fail
  refine (few_any A ca P w1 hA1 (by omega)).mono ?_
  rintro e w2 ⟨few, rfl, rfl, hfew⟩
  cases few with
  | false =>
    clear hfew
    go_wp2_with fail
    refine (live_any _ HT1.out).mono ?_
    rintro e w3 ⟨rfl, hb3⟩
    go_wp2
    go_ret
    exact ⟨rfl, hb1.trans (hb3.mono hb1.size)⟩
  | true =>
    obtain ⟨hp1, hp2⟩ := hfew rfl
    clear hfew
    go_wp2_with fail
    refine (laid_any A ca P w1 HT1.out hA1 hp1 hp2).mono ?_
    rintro e w2 ⟨v2, rfl, own2, hb2⟩
    obtain ⟨A2, c2, rfl, rd2, -, hc2, hcm⟩ := own_rd own2
    unfold maxLen at hcm
    have hA2 := hA1.below hb2
    have HT2 := Lib.hid (HT1.out.below hb2)
    have hb2' := hb1.trans (hb2.mono hb1.size)
    clear own2 hb2 hA1 HT1 hb1
    have hll : ∀ p ∈ P, p.2.2.length ≤ 4000 := by
      intro p hp
      have h1 : p.2.2.length ≤ (joined P).length := by
        unfold joined
        obtain ⟨s, t, rfl⟩ := List.append_of_mem hp
        simp only [List.flatMap_append, List.flatMap_cons, List.length_append]; omega
      omega
    have hlm : ∀ l ∈ P.map (·.2.2), l.length ≤ 1048576 := by
      intro l hl
      obtain ⟨p, hp, rfl⟩ := List.mem_map.1 hl
      have := hll p hp; omega
    have hfl := framesF_len (P.map (·.2.2)) hlm
    rw [← joined_flat, List.length_map] at hfl
    have htorn := fun c => allF_torn (P.map (·.2.2)) c hlm
    obtain ⟨fs, hfs⟩ : ∃ fs, fs = framesF (P.map (·.2.2)) := ⟨_, rfl⟩
    rw [← hfs] at rd2 hc2 hfl htorn ⊢
    have hf5 : fs.length ≤ 5400 := by omega
    have HTN := Lib.hid htorn; clear htorn hfl hfs
    have HLL := Lib.hid hll; clear hll hlm
    by_cases hin : 0 ≤ cut ∧ cut ≤ (fs.length : Int)
    · obtain ⟨hin0, hin1⟩ := hin
      obtain ⟨m, rfl⟩ := Int.eq_ofNat_of_zero_le hin0
      have hm : m ≤ fs.length := by omega
      obtain ⟨t1, t2, t3⟩ := HTN.out m hm
      have htl : (fs.take m).length = m := by rw [List.length_take]; omega
      have rdt := rd2.bytes_take m
      obtain ⟨ts, hts⟩ : ∃ ts, ts = fs.take m := ⟨_, rfl⟩
      rw [← hts] at t1 htl rdt
      obtain ⟨WN, WA, hW⟩ : ∃ WN WA, wholeF (P.map (·.2.2)) m = (WN, WA) := ⟨_, _, rfl⟩
      rw [hW] at t1 t2 t3
      simp only at t1 t2 t3
      rw [List.length_map] at t2
      have HT1' := Lib.hid t1; clear t1
      have HWW := Lib.hid hW; clear hW
      have HTL := Lib.hid htl; clear htl hts HTN
      have hmc : (m : Int) ≤ (c2 : Int) := by omega
      have hd1 : decide (fs.length < m) = false := by rw [decide_eq_false_iff_not]; omega
      have hd2 : decide ((fs.length : Int) < (m : Int)) = false := by rw [decide_eq_false_iff_not]; omega
      have hd3 : decide ((m : Int) < 0) = false := by rw [decide_eq_false_iff_not]; omega
      go_wp2_with fail
      refine (all_len A2 c2 m ts w2 HTL.out HT2.out rdt (by omega) (by omega) (by omega)).mono ?_
      rintro e w3 ⟨v3, Q, rfl, hQ, hQd, hb3⟩
      rw [HT1'.out] at hQd ⊢
      simp only at hQd ⊢
      obtain ⟨A3, c3, rfl, -⟩ := own_rd hQ.1
      have hA3 := hA2.below hb3
      have hb3' := hb2'.trans (hb3.mono hb2'.size)
      have hQl : Q.length = WN := by have := congrArg List.length hQd; simp at this; omega
      have HQD := Lib.hid hQd; clear hQd
      clear hA2 rd2 rdt HT2 hb3 hb2' HT1' HTL
      obtain ⟨ec, hec⟩ : ∃ ec : Nat, ec = (if WA = m then 0 else 6) := ⟨_, rfl⟩
      rw [← hec]
      have HEC := Lib.hid hec; clear hec
      have HQL := Lib.hid hQl; clear hQl
      go_wp2_with fail
      go_loopw [10, 11] (fun i v wr => ∃ k a : Nat, k ≤ P.length ∧ a ≤ m ∧ i = .int .i64 k ∧ v = .int .i64 a ∧ (WN, WA) = (k + (wholeF ((P.drop k).map (·.2.2)) (m - a)).1, a + (wholeF ((P.drop k).map (·.2.2)) (m - a)).2) ∧ Below w3.heap.size w3 wr) (fun i _ _ => P.length - (intOf i).toNat)
      case atStart => exact ⟨0, 0, by omega, by omega, rfl, rfl, by rw [List.drop_zero, Nat.sub_zero, HWW.out]; simp, Below.refl _ _⟩
      case round =>
        obtain ⟨k, a, hk, ham, rfl, rfl, hrec, hbw⟩ := hrel
        by_cases hlt : k < P.length
        · obtain ⟨b, off, rfl, q0⟩ := (hA3.below hbw).1 k (partV P[k]) (by simp [hlt])
          have hpl := HLL.out P[k] (List.getElem_mem hlt)
          rw [List.drop_eq_getElem_cons hlt, List.map_cons] at hrec
          have hsz := sizeF_frame P[k].2.2 (by omega)
          obtain ⟨D, hD⟩ : ∃ D, D = (P.drop (k + 1)).map (·.2.2) := ⟨_, rfl⟩
          rw [← hD] at hrec
          have HD := Lib.hid hD; clear hD
          generalize P[k] = p at *
          obtain ⟨Ap, cp, xs⟩ := p
          simp only [partV] at q0 hrec hpl hsz
          have hst := wholeF_step xs D (m - a)
          have hsp := wholeF_stop xs D (m - a)
          rw [← hsz] at hst hsp
          obtain ⟨z, hz⟩ : ∃ z, z = sizeF (xs.length : Int) := ⟨_, rfl⟩
          rw [← hz] at hst hsp
          have HZ := Lib.hid hz; clear hz hsz
          have HST := Lib.hid hst; clear hst
          have HSP := Lib.hid hsp; clear hsp
          have HREC := Lib.hid hrec; clear hrec
          have g0 : (0 : Int) ≤ (k : Int) := by omega
          have hz5 : z ≤ 1048576 + 100 := by
            have h1 := HZ.out
            unfold sizeF at h1
            have h2 := pu_len 10 xs.length (by omega)
            split at h1
            · omega
            · rw [Int.toNat_natCast] at h1; omega
          go_wp2_with fail
          refine (size_any xs.length wr).mono ?_
          rintro e w4 ⟨rfl, hb4⟩
          rw [← HZ.out]
          have hbw4 := hbw.trans (hb4.mono hbw.size)
          have q4 : w4.cell? ⟨b, off + k, none⟩ = some (.slice Ap xs.length cp) := (hb4.cell (p := ⟨b, off + k, none⟩) (World.block_lt_of_cell? wr _ q0)).trans q0
          clear q0 hb4 hbw
          by_cases hfit : a + z ≤ m
          · have hfit' : (a : Int) + (z : Int) ≤ (m : Int) := by omega
            have hrec := HREC.out
            rw [HST.out (by omega)] at hrec
            have HR2 := Lib.hid hrec; clear hrec HREC HST HSP
            go_wp2_with fail
            refine (size_any xs.length w4).mono ?_
            rintro e w5 ⟨rfl, hb5⟩
            rw [← HZ.out]
            have hbw5 := hbw4.trans (hb5.mono hbw4.size)
            clear hb5 hbw4 q4
            go_wp2
            go_roundw
            case rel =>
              refine ⟨k + 1, a + z, by omega, hfit, by go_num, by go_num, ?_, hbw5⟩
              rw [← HD.out, HR2.out, Nat.sub_sub]
              simp only [Prod.mk.injEq]
              constructor <;> omega
            case measure => simp [intOf]; omega
          · have hfit' : decide ((a : Int) + (z : Int) ≤ (m : Int)) = false := by simp; omega
            have hrec := HREC.out
            rw [HSP.out (by omega)] at hrec
            simp only [Prod.mk.injEq, Nat.add_zero] at hrec
            obtain ⟨e1, e2⟩ := hrec
            subst e1 e2
            clear HREC HST HSP
            have rA := (hA3.below hbw4).take WN
            go_wp2_with fail
            refine (same_len A3 _ c3 ca WN Q (P.take WN) w4 (by rw [List.length_take]; omega) (by rw [HQD.out, ← List.map_take]) ((hQ.below hbw4).rd.1) (rA.1) (hQ.below hbw4).rd.2 (fun p hp => (rA.2 p hp).1) (by rw [HQL.out]; omega) ?_).mono ?_
            · intro p hp
              have h1 : p.2.2 ∈ P.map (·.2.2) := List.mem_of_mem_take (by rw [← HQD.out]; exact List.mem_map.2 ⟨p, hp, rfl⟩)
              obtain ⟨p', hp', e'⟩ := List.mem_map.1 h1
              have := HLL.out p' hp'
              rw [e'] at this
              omega
            rintro e w6 ⟨rfl, n6, rfl⟩
            have hb6 := below_drewN (hb3'.trans (hbw4.mono hb3'.size)) n6
            generalize w4.drewN n6 = w6 at *
            by_cases hwm : WA = m
            · have hec := HEC.out
              rw [if_pos hwm] at hec
              subst hec
              have hwm' : ((WA : Int) == (m : Int)) = true := by rw [beq_iff_eq]; omega
              clear hwm
              go_wp2
              go_ret
              exact ⟨rfl, hb6⟩
            · have hec := HEC.out
              rw [if_neg hwm] at hec
              subst hec
              have hwm' : ((WA : Int) == (m : Int)) = false := by rw [beq_eq_false_iff_ne]; omega
              clear hwm
              go_wp2
              go_ret
              exact ⟨rfl, hb6⟩
        · obtain rfl : k = P.length := by omega
          rw [List.drop_length, List.map_nil, wholeF_nil] at hrec
          simp only [Prod.mk.injEq, Nat.add_zero] at hrec
          obtain ⟨e1, e2⟩ := hrec
          subst e2
          have rA := (hA3.below hbw).take P.length
          go_wp2_with fail
          refine (same_len A3 A c3 ca P.length Q (P.take P.length) wr (by rw [List.length_take]; omega) (by rw [HQD.out, ← List.map_take]; rw [e1]) ((hQ.below hbw).rd.1) (rA.1) (hQ.below hbw).rd.2 (fun p hp => (rA.2 p hp).1) (by rw [HQL.out]; omega) ?_).mono ?_
          · intro p hp
            have h1 : p.2.2 ∈ P.map (·.2.2) := List.mem_of_mem_take (by rw [← HQD.out]; exact List.mem_map.2 ⟨p, hp, rfl⟩)
            obtain ⟨p', hp', e'⟩ := List.mem_map.1 h1
            have := HLL.out p' hp'
            rw [e'] at this
            omega
          rintro e w6 ⟨rfl, n6, rfl⟩
          have hb6 := below_drewN (hb3'.trans (hbw.mono hb3'.size)) n6
          generalize wr.drewN n6 = w6 at *
          by_cases hwm : WA = m
          · have hec := HEC.out
            rw [if_pos hwm] at hec
            subst hec
            have hwm' : ((WA : Int) == (m : Int)) = true := by rw [beq_iff_eq]; omega
            clear hwm
            go_wp2
            go_ret
            exact ⟨rfl, hb6⟩
          · have hec := HEC.out
            rw [if_neg hwm] at hec
            subst hec
            have hwm' : ((WA : Int) == (m : Int)) = false := by rw [beq_eq_false_iff_ne]; omega
            clear hwm
            go_wp2
            go_ret
            exact ⟨rfl, hb6⟩
    · by_cases hneg : cut < 0
      · go_wp2
        go_ret
        exact ⟨rfl, hb2'⟩
      · have hgt : decide ((fs.length : Int) < cut) = true := by simp; omega
        have hnn : 0 ≤ cut := by omega
        go_wp2
        go_ret
        exact ⟨rfl, hb2'⟩

theorem frameTorn_contract (H : Type) (enc : TypeId × Value → H) (W : World) (base : Nat) (args : Array Value) (ds gs : List (DataW H)) (before : List MemPlace)
    (hval : ∀ (j : Nat) t v, Tryd.f10.params[j]? = some t → args[j]? = some v → Value.okWide Tryd.prog W .any base t v)
    (hW : DataW.Whole enc Tryd.prog Tryd.f10.params.toList Rows.frameTornSpec.vars false W args.toList ds gs before) (hL : laidMetH Tryd.prog Rows.frameTornRow.laid W) :
    Calls Tryd.prog 10 args W fun e W' => ∃ v, e = .returned v ∧ Rows.frameTornSpec.post enc Tryd.prog Tryd.f10 false true false false W args v W' := by
  have hW' := hW
  obtain ⟨p, q, hA0, hV, rfl, hfz, hnd⟩ := hW
  have hA : DataW.TrodAll enc Tryd.prog W 0 (fun _ => true) true Tryd.f10.params.toList args.toList ds p := hA0
  rw [Tryd.params10] at hA hval
  obtain ⟨v0, vs0, d0, ds0, p0, q0, hargs, rfl, rfl, h0, r0⟩ := trodAll_cons hA
  obtain ⟨v1, vs1, d1, ds1, p1, q1, rfl, rfl, rfl, h1, r1⟩ := trodAll_cons r0
  obtain ⟨rfl, rfl, rfl⟩ := trodAll_nil r1
  obtain rfl : args = #[v0, v1] := by cases args; simp_all
  obtain ⟨rfl, rfl⟩ := trodVars_none hV
  obtain ⟨A0, c0, xs0, rfl, hm0, hx0⟩ := open_rows (hval 0 40 v0 rfl rfl) h0
  obtain ⟨a1, rfl, rfl, rfl, w1⟩ := open_int Tryd.underlying3 (hval 1 3 v1 rfl rfl) h1
  clear hA0 hA
  unfold maxLen at hm0
  have b1 := bounds_i64 w1
  refine (ftorn_walk A0 c0 xs0 a1 W (table hL) hx0 (by omega) (by omega) (by omega) (by omega)).mono fun e W' ⟨he, hg⟩ => ?_
  subst he
  exact ⟨_, rfl, law_end laidOut (by kernel_rfl) (by kernel_rfl) Tryd.underlying4 rfl hW' ⟨rfl, rfl, rfl⟩ hg⟩

theorem frameTorn_met (os : Os) : laidMet Tryd.prog Rows.frameTornRow.laid ((laidWorld os).forCall (fun _ _ => 0) ⟨#[], #[.slice none 0 0, .int .i64 0], []⟩).memory :=
  laidMet_of_run' 8 (by kernel_rfl) (by kernel_rfl)
theorem frameTorn_reads (os : Os) {H : Type} (enc : TypeId × Value → H) : ∃ places, DataW.whole enc Tryd.prog ((laidWorld os).forCall (fun _ _ => 0) ⟨#[], #[.slice none 0 0, .int .i64 0], []⟩).memory Tryd.f10.params.toList Rows.frameTornSpec.vars false (#[.slice none 0 0, .int .i64 0] : Array Value).toList 8 = some ([.nil, .lit (.int .i64 0)], [], places) :=
  ⟨[], by kernel_rfl⟩

set_option maxRecDepth 100000 in
theorem frameTorn_lifted (os : Os) (started : os.Started) (H : Type) (enc : TypeId × Value → H) (F : Stop.Interp) :
    ReturnsInHanded {} Tryd.checked os 10 .any ((OpenSpec.ofChange Rows.frameTornSpec).preRow enc Tryd.prog Tryd.f10 Rows.frameTornRow.domain false Rows.frameTornRow.laid) (((OpenSpec.ofChange Rows.frameTornSpec).at F).post enc Tryd.prog Tryd.f10 false true false false) := by
  obtain ⟨places, hx⟩ := frameTorn_reads os enc
  refine returnsInHanded_of_row (C := Tryd.checked) (s := OpenSpec.ofChange Rows.frameTornSpec) ownKn started (by kernel_rfl) Tryd.func10
    (witness_row_at (enc := enc) (C := Tryd.checked) false (laidWorld os) #[.slice none 0 0, .int .i64 0] rfl (by kernel_rfl) (by kernel_rfl) (by kernel_rfl)
      (OpenSpec.preRow_of_cond 8 hx (by kernel_rfl) (fun k hk => by cases hk) (by kernel_rfl) (frameTorn_met os))) ?_
  intro W base args ds gs before hval hW _ _ _ hL _ _
  exact frameTorn_contract H enc W base args ds gs before hval hW hL

theorem frameTorn_said : Rows.FrameTornSaid :=
  OpenClaim.holds_of_cond 10 Tryd.f10 rfl rfl rfl rfl rfl rfl rfl ⟨rfl, rfl, rfl, rfl, rfl⟩ rfl rfl rfl rfl rfl (by kernel_rfl) Tryd.func10 (by kernel_rfl)
    (of_decide_eq_true (by kernel_rfl)) (by unfold Func.isWrapper; first | (rw [if_pos (by decide +kernel)]; kernel_rfl) | (rw [if_neg (by decide +kernel)]; exact ⟨rfl, rfl⟩))
    (fun os started H enc _ F => by rw [OpenClaim.pre_eq_preRow]; exact frameTorn_lifted os started H enc F)

theorem frameTorn_plain (f : FuncId) (fn : Func) (hf : Tryd.pinned.checked.prog.funcNamed "manometer/manometerlaw02.FrameTorn" = some f) (hfn : Tryd.pinned.checked.prog.funcs[f]? = some fn) :
    false = Tryd.pinned.checked.prog.looks [] ∧ ∀ (j : Nat) t, fn.params[j]? = some t → Tryd.pinned.checked.prog.wantsStandIn t = false := by
  obtain rfl : f = 10 := Option.some.inj ((show Tryd.prog.funcNamed "manometer/manometerlaw02.FrameTorn" = some 10 by kernel_rfl).symm.trans hf) |>.symm
  obtain rfl : fn = Tryd.f10 := (Option.some.inj (Tryd.func10.symm.trans hfn)).symm
  refine ⟨by kernel_rfl, fun j t ht => ?_⟩
  rw [Tryd.params10] at ht
  have hm : t = 40 ∨ t = 3 := by simpa using Array.mem_of_getElem? ht
  rcases hm with rfl | rfl
  · exact (show Tryd.prog.wantsStandIn 40 = false by kernel_rfl)
  · exact (show Tryd.prog.wantsStandIn 3 = false by kernel_rfl)

theorem frameTorn_card : Rows.FrameTornCardSaid :=
  Claim7.holds_tied_plain_at .later [] _ _ _ _ frameTorn_said (fun _ h => by cases h) (by kernel_rfl) (fun _ h => by cases h) frameTorn_row_tie rfl ⟨rfl, rfl⟩ (by kernel_rfl) rfl frameTorn_plain (by kernel_rfl)
#print axioms frameTorn_card
end
end Go.Proofs.YtnbgpmgcnfhfeaaDoor
