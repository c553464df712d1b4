/-
  Texts and sizes of patterns; the chapter's examples.
-/
import Derived.Test.YtfohmepjedehfabRv7
import Derived.Test.YtfohmepjedehfabRt3
import Derived.Test.YtfohmepjedehfabRp1
namespace Go.Proofs.Ytfohmepjedehfab
set_option linter.unusedVariables false
set_option linter.unusedSimpArgs false
open Go.RowKit
theorem RexIs.parts {w : World} {b : Nat} {s : ByteArray} {t : Re} (h : RexIs w b s t) : w.cell? ⟨b, 0, none⟩ = some (.bool true) ∧ w.cell? ⟨b, 1, none⟩ = some (.string s) ∧ ∃ A c, w.cell? ⟨b, 2, none⟩ = some (.slice A (compP t []).2.length c) := by
  obtain ⟨v, us, hb, ha⟩ := h.box
  obtain ⟨A, c, e, -, -, -⟩ := own_rdg ha.row
  refine ⟨by rw [cell_blk hb]; rfl, by rw [cell_blk hb]; rfl, A, c, by rw [cell_blk hb, ← e]; rfl⟩
section
set_option maxHeartbeats 3200000
set_option maxRecDepth 100000
theorem size_nil (w : World) : Calls Try.prog 40 #[.pointer none] w fun e w' => e = .returned (.int .i64 0) ∧ w' = w := by
  go_enter Try.func40, Try.ntmps40
  go_wp2
  go_ret
  exact ⟨rfl, rfl⟩
theorem size_some (b n c : Nat) (A : Option Addr) (w : World) (h : w.cell? ⟨b, 2, none⟩ = some (.slice A n c)) : Calls Try.prog 40 #[.pointer (some ⟨b, 0, none⟩)] w fun e w' => e = .returned (.int .i64 (n : Nat)) ∧ w' = w := by
  go_enter Try.func40, Try.ntmps40
  go_wp2
  go_ret
  exact ⟨rfl, rfl⟩
def t1 : Re := .cat (.cat .none (.set [(97, 97)] false)) (.plus (.alt (.cat .none (.set [(98, 98)] false)) (.cat .none (.set [(99, 99)] false))))
def t2 : Re := .alt (.alt (.cat .none (.set [(97, 97)] false)) (.cat .none (.set [(98, 98)] false))) (.cat .none (.set [(97, 97)] false))
theorem ex1 : rxP (bl ⟨#[97, 40, 98, 124, 99, 41, 43]⟩) = .ok t1 := by kernel_rfl
theorem ex2 : rxP (bl ⟨#[97, 124, 98, 124, 97]⟩) = .ok t2 := by kernel_rfl
theorem ex3 : rxP (bl ⟨#[97, 42, 42]⟩) = .error (2, 8) := by kernel_rfl
theorem ex4 : matchP (compP t1 []).1 (compP t1 []).2 (runesB (bl ⟨#[97, 98, 99, 98]⟩)) = true := by kernel_rfl
theorem ex5 : matchP (compP t1 []).1 (compP t1 []).2 (runesB (bl ⟨#[97]⟩)) = false := by kernel_rfl
theorem ex6 : valP (runesB (bl ⟨#[97, 124, 98, 124, 97]⟩)) = some [[97], [98]] := by kernel_rfl
theorem ex7 : encs (quoteC (runesB (bl ⟨#[97, 46, 98]⟩))) = [97, 92, 46, 98] := by kernel_rfl
theorem ex8 : (compP t1 []).2.length = 3 := by kernel_rfl
theorem live_any (w : World) : Calls Try.prog 23 #[] w fun e w' => e = .returned (.bool true) ∧ RowKit.Below w.heap.size w w' := by
  have HP1 := Lib.hid (fun W => parse_any ⟨#[97, 40, 98, 124, 99, 41, 43]⟩ W)
  have HP2 := Lib.hid (fun W => parse_any ⟨#[97, 124, 98, 124, 97]⟩ W)
  have HP3 := Lib.hid (fun W => parse_any ⟨#[97, 42, 42]⟩ W)
  rw [ex1] at HP1
  rw [ex2] at HP2
  rw [ex3] at HP3
  have HM1 := Lib.hid (fun (b : Nat) (W : World) (h : RexIs W b ⟨#[97, 40, 98, 124, 99, 41, 43]⟩ t1) => match_any b _ t1 ⟨#[97, 98, 99, 98]⟩ W h)
  have HM2 := Lib.hid (fun (b : Nat) (W : World) (h : RexIs W b ⟨#[97, 40, 98, 124, 99, 41, 43]⟩ t1) => match_any b _ t1 ⟨#[97]⟩ W h)
  rw [ex4] at HM1
  rw [ex5] at HM2
  have HV := Lib.hid (fun (b : Nat) (W : World) (h : RexIs W b ⟨#[97, 124, 98, 124, 97]⟩ t2) => values_any b _ W h.parts.1 h.parts.2.1 (by decide))
  rw [ex6] at HV
  have HQ := Lib.hid (fun W => rexquote_any ⟨#[97, 46, 98]⟩ W (by decide))
  rw [ex7] at HQ
  go_enter Try.func23, Try.ntmps23
  go_wp2_with fail
  refine (HP1.out _).mono ?_
  rintro e w1 ⟨b1, rfl, -, hr1, hb1⟩
  have HB1 := Lib.hid hb1; have HR1 := Lib.hid hr1; clear hb1 hr1
  go_wp2_with fail
  refine (HP2.out _).mono ?_
  rintro e w2 ⟨b2, rfl, -, hr2, hb2⟩
  have HB2 := Lib.hid (HB1.out.trans (hb2.mono HB1.out.size)); have HR2 := Lib.hid hr2
  have HR1b := Lib.hid (HR1.out.below hb2); clear hb2 hr2 HR1
  go_wp2_with fail
  refine (HP3.out _).mono ?_
  rintro e w3 ⟨rfl, hb3⟩
  have HB3 := Lib.hid (HB2.out.trans (hb3.mono HB2.out.size))
  have HR2b := Lib.hid (HR2.out.below hb3); have HR1c := Lib.hid (HR1b.out.below hb3); clear hb3
  have HVV := Lib.hid (HV.out b2 w3 HR2b.out)
  go_wp2_with fail
  refine HVV.out.mono ?_
  rintro e w4 ⟨v4, rfl, ho4, hb4⟩
  have HR1d := Lib.hid (HR1c.out.below hb4)
  have HB4 := Lib.hid (HB3.out.trans (hb4.mono HB3.out.size))
  obtain ⟨g, cc, rfl, -, -, -, -, hrd⟩ := own_some ho4 (by decide)
  have HRD := Lib.hid hrd
  clear hb4 ho4 hrd
  have HMM := Lib.hid (HM1.out b1 w4 HR1d.out)
  go_wp2_with fail
  refine HMM.out.mono ?_
  rintro e w5 ⟨rfl, hb5⟩
  have HR1e := Lib.hid (HR1d.out.below hb5)
  have HB5 := Lib.hid (HB4.out.trans (hb5.mono HB4.out.size))
  have HRD5 := Lib.hid (HRD.out.below hb5)
  clear hb5
  have HMN := Lib.hid (HM2.out b1 w5 HR1e.out)
  go_wp2_with fail
  refine HMN.out.mono ?_
  rintro e w6 ⟨rfl, hb6⟩
  have HR1f := Lib.hid (HR1e.out.below hb6)
  have HB6 := Lib.hid (HB5.out.trans (hb6.mono HB5.out.size))
  have hrd6 := HRD5.out.below hb6
  obtain ⟨g', o', e1, hc1⟩ := hrd6 1 (.string (mkB [98])) rfl
  injection e1 with e1; injection e1 with e1 e2; subst e1; subst e2
  have htx : ((mkB [98]).toList == [98]) = true := by rw [toList_bl, bl_mk]; rfl
  have htx2 : ((mkB [97, 92, 46, 98]).toList == [97, 92, 46, 98]) = true := by rw [toList_bl, bl_mk]; rfl
  obtain ⟨As, cs, hsz⟩ := HR1f.out.parts.2.2
  rw [ex8] at hsz
  have HSZ := Lib.hid (size_some b1 3 cs As w6 hsz)
  clear hrd6 hb6 hsz
  go_wp2_with fail
  refine HSZ.out.mono ?_
  rintro e w7 ⟨rfl, rfl⟩
  go_wp2_with fail
  refine (HQ.out _).mono ?_
  rintro e w8 ⟨rfl, hb8⟩
  have HB8 := Lib.hid (HB6.out.trans (hb8.mono HB6.out.size))
  clear hb8
  go_wp2
  go_ret
  exact ⟨rfl, HB8.out⟩
end
end Go.Proofs.Ytfohmepjedehfab
