/-
  HashBack (P3.7): bytes are got again of their letters and digits; letters and digits that are taken are those of the bytes; longer bytes have no fewer. The condition is the table's: it holds what its initialiser lays, which the card ties to the program's text.
-/
import Derived.Test.YtmgjlldccmgpcaaDoorHt
import Derived.Test.YtmgjlldccmgpcaaDoorHq
import Derived.Test.YtmgjlldccmgpcaaDoorUx
import Derived.Test.YtmgjlldccmgpcaaDoorEq
namespace Go.Proofs.YtmgjlldccmgpcaaDoor
set_option linter.unusedVariables false
set_option linter.unusedSimpArgs false
open Go.ChangeMaps (open_string)
open Go.ChangeShapes Go.WideShapes Go.ChangeAt Go.RowKit

theorem drawn_below {B : Nat} {w w1 w2 : World} (h : RowKit.Below B w w1) (hd : ∃ n, w2 = w1.drewN n) : RowKit.Below B w w2 := by
  obtain ⟨n, rfl⟩ := hd
  exact below_drewN h n
/-- What is got of letters is taken of them again. -/
theorem text_of {l : List UInt8} {s : ByteArray} (h : l = bl s) : (⟨l.toArray⟩ : ByteArray) = s := by subst h; exact mk_bl s
section
set_option maxHeartbeats 3200000
set_option maxRecDepth 100000
theorem hback_walk (A B : Option Addr) (ca cb : Nat) (xs ys : List UInt8) (s : ByteArray) (w : World) (ht : AddsMet w) (hx : Rd w A (xs.map Bv)) (hy : Rd w B (ys.map Bv)) (hlc : xs.length ≤ ca) (hcm : ca ≤ 9223372036854775807) (hlc2 : ys.length ≤ cb) (hcm2 : cb ≤ 9223372036854775807) :
    Calls Tryd.prog 9 #[.slice A xs.length ca, .slice B ys.length cb, .string s] w fun e w' => e = .returned (.bool true) ∧ Below w.heap.size w w' := by
  have HT := Lib.hid ht; clear ht
  have HX := Lib.hid hx; have HY := Lib.hid hy; clear hx hy
  have HL1 := Lib.hid (fun (W : World) (hb : Below w.heap.size w W) => live_any W (HT.out.below hb))
  have hpt := fun W (hw : Below w.heap.size w W) => parts_new W [(A, ca, xs), (B, cb, ys)] fun p hp => by
    simp only [List.mem_cons, List.not_mem_nil, or_false] at hp
    rcases hp with rfl | rfl
    · exact ⟨HX.out.below hw, hlc, hcm⟩
    · exact ⟨HY.out.below hw, hlc2, hcm2⟩
  have hsh := fun W (hw : Below w.heap.size w W) => short_any (W.alloc (.cells #[.slice A xs.length ca, .slice B ys.length cb] 28)) (some ⟨W.heap.size, 0, none⟩) 2 2 [(A, ca, xs), (B, cb, ys)] rfl (hpt W hw).row (by decide)
  have hshs := @shortB_spec [(A, ca, xs), (B, cb, ys)]
  generalize shortB [(A, ca, xs), (B, cb, ys)] = SB at hsh hshs
  have HSH := Lib.hid hsh; have HSS := Lib.hid hshs; clear hsh hpt hshs hcm hcm2
  go_enter Tryd.func9, Tryd.ntmps9
  go_wp2_with fail
  refine (HL1.out w (RowKit.Below.refl _ _)).mono ?_
  rintro e w1 ⟨rfl, hb1⟩
  have HW1 := Lib.hid hb1; clear hb1
  have hs1 := HSH.out w1 HW1.out
  have HS1 := Lib.hid hs1; clear hs1 HSH
  have hb1' := HW1.out.alloc HW1.out.size (.cells #[.slice A xs.length ca, .slice B ys.length cb] 28)
  have HB1 := Lib.hid hb1'; clear hb1'
  go_wp2_with fail
  refine HS1.out.mono ?_
  rintro e w2 ⟨rfl, rfl⟩
  generalize w1.alloc (.cells #[.slice A xs.length ca, .slice B ys.length cb] 28) = w2 at *
  cases SB with
  | false =>
    clear HSS
    go_wp2_with fail
    refine (HL1.out _ HB1.out).mono ?_
    rintro e w3 ⟨rfl, hb3⟩
    have HW3 := Lib.hid (HB1.out.trans (hb3.mono HB1.out.size)); clear hb3
    go_wp2
    go_ret
    exact ⟨rfl, HW3.out⟩
  | true =>
    by_cases h2000 : s.size ≤ 2000
    · have h2000' : ¬ (2000 : Int) < (s.size : Int) := by omega
      have hx2 : xs.length ≤ 2000 := (HSS.out rfl).1 (A, ca, xs) (by simp)
      have hy2 : ys.length ≤ 2000 := (HSS.out rfl).1 (B, cb, ys) (by simp)
      clear HSS HL1 HS1
      -- letters and digits of both, and what is got of them
      have hlA := armS_length 6 armL xs
      have a1 := fun W (hw : Below w.heap.size w W) => armor_any W A ca xs.length xs rfl (HX.out.below hw) (by omega)
      have a2 := fun W (hw : Below w.heap.size w W) => hex_any W A ca xs.length xs rfl (HX.out.below hw) (by omega)
      have a3 := fun W (hw : Below w.heap.size w W) => armor_any W B cb ys.length ys rfl (HY.out.below hw) (by omega)
      have hmono : xs.length ≤ ys.length → (armS 6 armL xs).length ≤ (armS 6 armL ys).length := armS_mono 6 armL (.inr rfl) xs ys
      have hhex := hex_length xs
      have u1 := un_arm arm_letters (by decide) (by decide) xs
      have u2 := un_arm hex_letters (by decide) (by decide) xs
      have z1 : ∀ W, Calls Tryd.prog 26 #[.string ⟨(armS 6 armL xs).toArray⟩] W (BytesRes W (0, xs)) := fun W => by
        have h := unarmor_any (mkB (armS 6 armL xs)) W (by rw [mkB_size, hlA]; unfold fillN; omega)
        rw [bl_mk, u1] at h; exact h
      have z2 : ∀ W, Calls Tryd.prog 28 #[.string ⟨(armS 4 hexL xs).toArray⟩] W (BytesRes W (0, xs)) := fun W => by
        have h := unhex_any (mkB (armS 4 hexL xs)) W (by rw [mkB_size, hhex]; omega)
        rw [bl_mk, u2] at h; exact h
      have hsz1 : (⟨(armS 6 armL xs).toArray⟩ : ByteArray).size = (armS 6 armL xs).length := mkB_size _
      have hsz2 : (⟨(armS 4 hexL xs).toArray⟩ : ByteArray).size = 2 * xs.length := (mkB_size _).trans hhex
      have hsz3 : (⟨(armS 6 armL ys).toArray⟩ : ByteArray).size = (armS 6 armL ys).length := mkB_size _
      have hm2 : xs.length ≤ ys.length → (⟨(armS 6 armL xs).toArray⟩ : ByteArray).size ≤ (⟨(armS 6 armL ys).toArray⟩ : ByteArray).size := fun h => by rw [hsz1, hsz3]; exact hmono h
      clear hlA hmono hhex u1 u2 hsz1 hsz3
      generalize (⟨(armS 6 armL xs).toArray⟩ : ByteArray) = SA at *
      generalize (⟨(armS 4 hexL xs).toArray⟩ : ByteArray) = SH at *
      generalize (⟨(armS 6 armL ys).toArray⟩ : ByteArray) = SC at *
      -- what is got of the text, and its letters
      have t1 := fun W => unarmor_any s W (by omega)
      have t2 := fun W => unhex_any s W (by omega)
      have f1 := arm_of_un arm_letters (.inr rfl) (bl s)
      have f2 := arm_of_un hex_letters (.inl rfl) (bl s)
      have l1 : (unP 6 armV (bl s)).2.length ≤ 1000000 := by
        unfold unP; split
        · split
          · simp
          · simp only; rw [bytesN_len, unBits_length, bl_len]; omega
        · simp
      have l2 : (unP 4 hexV (bl s)).2.length ≤ 1000000 := by
        unfold unP; split
        · split
          · simp
          · simp only; rw [bytesN_len, unBits_length, bl_len]; omega
        · simp
      generalize unP 6 armV (bl s) = R1 at *
      generalize unP 4 hexV (bl s) = R2 at *
      obtain ⟨e1, v1⟩ := R1
      obtain ⟨e2, v2⟩ := R2
      simp only at f1 f2 l1 l2
      have r1 : e1 = 0 → ∀ C c W, Rd W C (v1.map Bv) → Calls Tryd.prog 30 #[.slice C v1.length c] W fun e w' => e = .returned (.string s) ∧ Below W.heap.size W w' := fun h C c W hr => by
        have := armor_any W C c v1.length v1 rfl hr l1
        rwa [text_of (f1 h)] at this
      have r2 : e2 = 0 → ∀ C c W, Rd W C (v2.map Bv) → Calls Tryd.prog 32 #[.slice C v2.length c] W fun e w' => e = .returned (.string s) ∧ Below W.heap.size W w' := fun h C c W hr => by
        have := hex_any W C c v2.length v2 rfl hr l2
        rwa [text_of (f2 h)] at this
      have A1 := Lib.hid a1; have A2 := Lib.hid a2; have A3 := Lib.hid a3; have Z1 := Lib.hid z1; have Z2 := Lib.hid z2; have T1 := Lib.hid t1; have T2 := Lib.hid t2; have R1 := Lib.hid r1; have R2 := Lib.hid r2; have M2 := Lib.hid hm2; have S2 := Lib.hid hsz2
      clear a1 a2 a3 z1 z2 t1 t2 f1 f2 r1 r2 hm2 hsz2
      go_wp2_with fail
      refine (A1.out _ HB1.out).mono ?_
      rintro e w3 ⟨rfl, hb3⟩
      have HW3 := Lib.hid (HB1.out.trans (hb3.mono HB1.out.size)); clear hb3
      go_wp2_with fail
      refine (Z1.out _).mono ?_
      rintro e w4 ⟨C4, c4, rfl, hr4, hb4⟩
      have HW4 := Lib.hid (HW3.out.trans (hb4.mono HW3.out.size)); clear hb4
      have HR4 := Lib.hid hr4; clear hr4
      simp only
      go_wp2_with fail
      refine (A2.out _ HW4.out).mono ?_
      rintro e w5 ⟨rfl, hb5⟩
      have HW5 := Lib.hid (HW4.out.trans (hb5.mono HW4.out.size))
      have HR5 := Lib.hid (HR4.out.below hb5); clear hb5 HR4
      go_wp2_with fail
      refine (Z2.out _).mono ?_
      rintro e w6 ⟨C6, c6, rfl, hr6, hb6⟩
      have HW6 := Lib.hid (HW5.out.trans (hb6.mono HW5.out.size))
      have HR6 := Lib.hid (HR5.out.below hb6); clear hb6 HR5
      have HQ6 := Lib.hid hr6; clear hr6
      simp only
      have q1 := equal_any C4 A c4 ca xs xs w6 HR6.out (HX.out.below HW6.out) (by omega) (by omega)
      simp only [decide_true] at q1
      have Q1 := Lib.hid q1; clear q1
      go_wp2_with fail
      refine Q1.out.mono ?_
      rintro e w7 ⟨rfl, hd⟩
      have hq7 : Rd w7 C6 (xs.map Bv) := by obtain ⟨n, rfl⟩ := hd; exact HQ6.out.drewN n
      have HW7 := Lib.hid (drawn_below HW6.out hd); clear hd
      have q2 := equal_any C6 A c6 ca xs xs w7 hq7 (HX.out.below HW7.out) (by omega) (by omega)
      simp only [decide_true] at q2
      have Q2 := Lib.hid q2; clear q2 hq7
      go_wp2_with fail
      refine Q2.out.mono ?_
      rintro e w8 ⟨rfl, hd⟩
      have HW8 := Lib.hid (drawn_below HW7.out hd); clear hd
      go_wp2_with fail
      refine (T1.out _).mono ?_
      rintro e w9 ⟨C9, c9, rfl, hr9, hb9⟩
      simp only at hr9 ⊢
      have HW9 := Lib.hid (HW8.out.trans (hb9.mono HW8.out.size)); clear hb9
      have HR9 := Lib.hid hr9; clear hr9
      by_cases h1 : e1 = 0
      · have k1 := R1.out h1 C9 c9 w9 HR9.out
        have K1 := Lib.hid k1; clear k1 R1
        subst h1
        go_wp2_with fail
        refine K1.out.mono ?_
        rintro e w10 ⟨rfl, hb10⟩
        have HWA := Lib.hid (HW9.out.trans (hb10.mono HW9.out.size)); clear hb10
        go_wp2_with fail
        refine (T2.out _).mono ?_
        rintro e w11 ⟨C11, c11, rfl, hr11, hb11⟩
        simp only at hr11 ⊢
        have HW11 := Lib.hid (HWA.out.trans (hb11.mono HWA.out.size)); clear hb11
        have HR11 := Lib.hid hr11; clear hr11
        by_cases h2 : e2 = 0
        · have k2 := R2.out h2 C11 c11 w11 HR11.out
          have K2 := Lib.hid k2; clear k2 R2
          subst h2
          go_wp2_with fail
          refine K2.out.mono ?_
          rintro e w12 ⟨rfl, hb12⟩
          have HWB := Lib.hid (HW11.out.trans (hb12.mono HW11.out.size)); clear hb12
          by_cases hab : xs.length ≤ ys.length
          · have hab' : ¬ (ys.length : Int) < (xs.length : Int) := by omega
            have m2 : (SA.size : Int) ≤ (SC.size : Int) := by have := M2.out hab; omega
            have s2 : (SH.size : Int) = 2 * (xs.length : Int) := by have := S2.out; omega
            have S2' := Lib.hid s2; clear s2
            go_wp2_with fail
            refine (A1.out _ HWB.out).mono ?_
            rintro e w13 ⟨rfl, hb13⟩
            have HW13 := Lib.hid (HWB.out.trans (hb13.mono HWB.out.size)); clear hb13
            go_wp2_with fail
            refine (A3.out _ HW13.out).mono ?_
            rintro e w14 ⟨rfl, hb14⟩
            have HW14 := Lib.hid (HW13.out.trans (hb14.mono HW13.out.size)); clear hb14
            go_wp2_with fail
            refine (A2.out _ HW14.out).mono ?_
            rintro e w15 ⟨rfl, hb15⟩
            have HW15 := Lib.hid (HW14.out.trans (hb15.mono HW14.out.size)); clear hb15
            have s3 : ((SH.size : Int) == 2 * (xs.length : Int)) = true := by rw [beq_iff_eq]; exact S2'.out
            go_wp2
            go_ret
            exact ⟨rfl, HW15.out⟩
          · have hab' : (ys.length : Int) < (xs.length : Int) := by omega
            go_wp2
            go_ret
            exact ⟨rfl, HWB.out⟩
        · have g2 : ((e2 : Int) == 0) = false := by rw [beq_eq_false_iff_ne]; omega
          have HWB := HW11
          clear R2
          by_cases hab : xs.length ≤ ys.length
          · have hab' : ¬ (ys.length : Int) < (xs.length : Int) := by omega
            have m2 : (SA.size : Int) ≤ (SC.size : Int) := by have := M2.out hab; omega
            have s2 : (SH.size : Int) = 2 * (xs.length : Int) := by have := S2.out; omega
            have S2' := Lib.hid s2; clear s2
            go_wp2_with fail
            refine (A1.out _ HWB.out).mono ?_
            rintro e w13 ⟨rfl, hb13⟩
            have HW13 := Lib.hid (HWB.out.trans (hb13.mono HWB.out.size)); clear hb13
            go_wp2_with fail
            refine (A3.out _ HW13.out).mono ?_
            rintro e w14 ⟨rfl, hb14⟩
            have HW14 := Lib.hid (HW13.out.trans (hb14.mono HW13.out.size)); clear hb14
            go_wp2_with fail
            refine (A2.out _ HW14.out).mono ?_
            rintro e w15 ⟨rfl, hb15⟩
            have HW15 := Lib.hid (HW14.out.trans (hb15.mono HW14.out.size)); clear hb15
            have s3 : ((SH.size : Int) == 2 * (xs.length : Int)) = true := by rw [beq_iff_eq]; exact S2'.out
            go_wp2
            go_ret
            exact ⟨rfl, HW15.out⟩
          · have hab' : (ys.length : Int) < (xs.length : Int) := by omega
            go_wp2
            go_ret
            exact ⟨rfl, HWB.out⟩
      · have g1 : ((e1 : Int) == 0) = false := by rw [beq_eq_false_iff_ne]; omega
        have HWA := HW9
        clear R1
        go_wp2_with fail
        refine (T2.out _).mono ?_
        rintro e w11 ⟨C11, c11, rfl, hr11, hb11⟩
        simp only at hr11 ⊢
        have HW11 := Lib.hid (HWA.out.trans (hb11.mono HWA.out.size)); clear hb11
        have HR11 := Lib.hid hr11; clear hr11
        by_cases h2 : e2 = 0
        · have k2 := R2.out h2 C11 c11 w11 HR11.out
          have K2 := Lib.hid k2; clear k2 R2
          subst h2
          go_wp2_with fail
          refine K2.out.mono ?_
          rintro e w12 ⟨rfl, hb12⟩
          have HWB := Lib.hid (HW11.out.trans (hb12.mono HW11.out.size)); clear hb12
          by_cases hab : xs.length ≤ ys.length
          · have hab' : ¬ (ys.length : Int) < (xs.length : Int) := by omega
            have m2 : (SA.size : Int) ≤ (SC.size : Int) := by have := M2.out hab; omega
            have s2 : (SH.size : Int) = 2 * (xs.length : Int) := by have := S2.out; omega
            have S2' := Lib.hid s2; clear s2
            go_wp2_with fail
            refine (A1.out _ HWB.out).mono ?_
            rintro e w13 ⟨rfl, hb13⟩
            have HW13 := Lib.hid (HWB.out.trans (hb13.mono HWB.out.size)); clear hb13
            go_wp2_with fail
            refine (A3.out _ HW13.out).mono ?_
            rintro e w14 ⟨rfl, hb14⟩
            have HW14 := Lib.hid (HW13.out.trans (hb14.mono HW13.out.size)); clear hb14
            go_wp2_with fail
            refine (A2.out _ HW14.out).mono ?_
            rintro e w15 ⟨rfl, hb15⟩
            have HW15 := Lib.hid (HW14.out.trans (hb15.mono HW14.out.size)); clear hb15
            have s3 : ((SH.size : Int) == 2 * (xs.length : Int)) = true := by rw [beq_iff_eq]; exact S2'.out
            go_wp2
            go_ret
            exact ⟨rfl, HW15.out⟩
          · have hab' : (ys.length : Int) < (xs.length : Int) := by omega
            go_wp2
            go_ret
            exact ⟨rfl, HWB.out⟩
        · have g2 : ((e2 : Int) == 0) = false := by rw [beq_eq_false_iff_ne]; omega
          have HWB := HW11
          clear R2
          by_cases hab : xs.length ≤ ys.length
          · have hab' : ¬ (ys.length : Int) < (xs.length : Int) := by omega
            have m2 : (SA.size : Int) ≤ (SC.size : Int) := by have := M2.out hab; omega
            have s2 : (SH.size : Int) = 2 * (xs.length : Int) := by have := S2.out; omega
            have S2' := Lib.hid s2; clear s2
            go_wp2_with fail
            refine (A1.out _ HWB.out).mono ?_
            rintro e w13 ⟨rfl, hb13⟩
            have HW13 := Lib.hid (HWB.out.trans (hb13.mono HWB.out.size)); clear hb13
            go_wp2_with fail
            refine (A3.out _ HW13.out).mono ?_
            rintro e w14 ⟨rfl, hb14⟩
            have HW14 := Lib.hid (HW13.out.trans (hb14.mono HW13.out.size)); clear hb14
            go_wp2_with fail
            refine (A2.out _ HW14.out).mono ?_
            rintro e w15 ⟨rfl, hb15⟩
            have HW15 := Lib.hid (HW14.out.trans (hb15.mono HW14.out.size)); clear hb15
            have s3 : ((SH.size : Int) == 2 * (xs.length : Int)) = true := by rw [beq_iff_eq]; exact S2'.out
            go_wp2
            go_ret
            exact ⟨rfl, HW15.out⟩
          · have hab' : (ys.length : Int) < (xs.length : Int) := by omega
            go_wp2
            go_ret
            exact ⟨rfl, HWB.out⟩
    · have h2000' : (2000 : Int) < (s.size : Int) := by omega
      clear HSS
      go_wp2_with fail
      refine (HL1.out _ HB1.out).mono ?_
      rintro e w3 ⟨rfl, hb3⟩
      have HW3 := Lib.hid (HB1.out.trans (hb3.mono HB1.out.size)); clear hb3
      go_wp2
      go_ret
      exact ⟨rfl, HW3.out⟩
end

set_option maxRecDepth 100000 in
theorem hashBack_contract (H : Type) (enc : TypeId × Value → H) (W : World) (base : Nat) (args : Array Value) (ds gs : List (DataW H)) (before : List MemPlace)
    (hval : ∀ (j : Nat) t v, Tryd.f9.params[j]? = some t → args[j]? = some v → Value.okWide Tryd.prog W .any base t v)
    (hW : DataW.Whole enc Tryd.prog Tryd.f9.params.toList Rows.hashBackSpec.vars false W args.toList ds gs before) (hL : laidMetH Tryd.prog Rows.hashBackRow.laid W) :
    Calls Tryd.prog 9 args W fun e W' => ∃ v, e = .returned v ∧ Rows.hashBackSpec.post enc Tryd.prog Tryd.f9 false true false false W args v W' := by
  have hW' := hW
  obtain ⟨p, q, hA0, hV, rfl, hfz, hnd⟩ := hW
  have hA : DataW.TrodAll enc Tryd.prog W 0 (fun _ => true) true Tryd.f9.params.toList args.toList ds p := hA0
  rw [Tryd.params9] at hA hval
  obtain ⟨v0, vs0, d0, ds0, p0, q0, hargs, rfl, rfl, h0, r0⟩ := trodAll_cons hA
  obtain ⟨v1, vs1, d1, ds1, p1, q1, rfl, rfl, rfl, h1, r1⟩ := trodAll_cons r0
  obtain ⟨v2, vs2, d2, ds2, p2, q2, rfl, rfl, rfl, h2, r2⟩ := trodAll_cons r1
  obtain ⟨rfl, rfl, rfl⟩ := trodAll_nil r2
  obtain rfl : args = #[v0, v1, v2] := by cases args; simp_all
  obtain ⟨rfl, rfl⟩ := trodVars_none hV
  obtain ⟨A0, c0, xs0, rfl, hm0, hx0⟩ := open_bytes Tryd.underlying28 Tryd.underlying5 (by kernel_rfl) (hval 0 28 v0 rfl rfl) h0
  obtain ⟨A1, c1, xs1, rfl, hm1, hx1⟩ := open_bytes Tryd.underlying28 Tryd.underlying5 (by kernel_rfl) (hval 1 28 v1 rfl rfl) h1
  obtain ⟨s2, rfl, rfl, rfl, ws2⟩ := open_string Tryd.underlying9 (hval 2 9 v2 rfl rfl) h2
  clear hA0 hA
  unfold maxLen at hm0
  unfold maxLen at hm1
  unfold maxLen at ws2
  refine (hback_walk A0 A1 c0 c1 xs0 xs1 s2 W (table hL) hx0 hx1 hm0.1 hm0.2 hm1.1 hm1.2).mono fun e W' ⟨he, hg⟩ => ?_
  subst he
  exact ⟨_, rfl, law_end laidOut (by kernel_rfl) (by kernel_rfl) Tryd.underlying4 rfl hW' ⟨rfl, rfl, rfl⟩ hg⟩

theorem hashBack_met (os : Os) : laidMet Tryd.prog Rows.hashBackRow.laid ((laidWorld os).forCall (fun _ _ => 0) ⟨#[], #[.slice none 0 0, .slice none 0 0, .string ⟨#[]⟩], []⟩).memory :=
  laidMet_of_run' 8 (by kernel_rfl) (by kernel_rfl)
theorem hashBack_reads (os : Os) {H : Type} (enc : TypeId × Value → H) : ∃ places, DataW.whole enc Tryd.prog ((laidWorld os).forCall (fun _ _ => 0) ⟨#[], #[.slice none 0 0, .slice none 0 0, .string ⟨#[]⟩], []⟩).memory Tryd.f9.params.toList Rows.hashBackSpec.vars false (#[.slice none 0 0, .slice none 0 0, .string ⟨#[]⟩] : Array Value).toList 8 = some ([.nil, .nil, .lit (.string [])], [], places) :=
  ⟨[], by kernel_rfl⟩

set_option maxRecDepth 100000 in
theorem hashBack_lifted (os : Os) (started : os.Started) (H : Type) (enc : TypeId × Value → H) (F : Stop.Interp) :
    ReturnsInHanded {} Tryd.checked os 9 .any ((OpenSpec.ofChange Rows.hashBackSpec).preRow enc Tryd.prog Tryd.f9 Rows.hashBackRow.domain false Rows.hashBackRow.laid) (((OpenSpec.ofChange Rows.hashBackSpec).at F).post enc Tryd.prog Tryd.f9 false true false false) := by
  obtain ⟨places, hx⟩ := hashBack_reads os enc
  refine returnsInHanded_of_row (C := Tryd.checked) (s := OpenSpec.ofChange Rows.hashBackSpec) ownKn started (by kernel_rfl) Tryd.func9
    (witness_row_at (enc := enc) (C := Tryd.checked) false (laidWorld os) #[.slice none 0 0, .slice none 0 0, .string ⟨#[]⟩] rfl (by kernel_rfl) (by kernel_rfl) (by kernel_rfl)
      (OpenSpec.preRow_of_cond 8 hx (by kernel_rfl) (fun k hk => by cases hk) (by kernel_rfl) (hashBack_met os))) ?_
  intro W base args ds gs before hval hW _ _ _ hL _ _
  exact hashBack_contract H enc W base args ds gs before hval hW hL

theorem hashBack_said : Rows.HashBackSaid :=
  OpenClaim.holds_of_cond 9 Tryd.f9 rfl rfl rfl rfl rfl rfl rfl ⟨rfl, rfl, rfl, rfl, rfl⟩ rfl rfl rfl rfl rfl (by kernel_rfl) Tryd.func9 (by kernel_rfl)
    (of_decide_eq_true (by kernel_rfl)) (by unfold Func.isWrapper; first | (rw [if_pos (by decide +kernel)]; kernel_rfl) | (rw [if_neg (by decide +kernel)]; exact ⟨rfl, rfl⟩))
    (fun os started H enc _ F => by rw [OpenClaim.pre_eq_preRow]; exact hashBack_lifted os started H enc F)

theorem hashBack_plain (f : FuncId) (fn : Func) (hf : Tryd.pinned.checked.prog.funcNamed "manometer/manometerlaw03.HashBack" = some f) (hfn : Tryd.pinned.checked.prog.funcs[f]? = some fn) :
    false = Tryd.pinned.checked.prog.looks [] ∧ ∀ (j : Nat) t, fn.params[j]? = some t → Tryd.pinned.checked.prog.wantsStandIn t = false := by
  obtain rfl : f = 9 := Option.some.inj ((show Tryd.prog.funcNamed "manometer/manometerlaw03.HashBack" = some 9 by kernel_rfl).symm.trans hf) |>.symm
  obtain rfl : fn = Tryd.f9 := (Option.some.inj (Tryd.func9.symm.trans hfn)).symm
  refine ⟨by kernel_rfl, fun j t ht => ?_⟩
  rw [Tryd.params9] at ht
  have hm : t = 28 ∨ t = 28 ∨ t = 9 := by simpa using Array.mem_of_getElem? ht
  rcases hm with rfl | rfl | rfl
  · exact (show Tryd.prog.wantsStandIn 28 = false by kernel_rfl)
  · exact (show Tryd.prog.wantsStandIn 28 = false by kernel_rfl)
  · exact (show Tryd.prog.wantsStandIn 9 = false by kernel_rfl)

theorem hashBack_card : Rows.HashBackCardSaid :=
  Claim7.holds_tied_plain_at .later [] _ _ _ _ hashBack_said (fun _ h => by cases h) (by kernel_rfl) (fun _ h => by cases h) hashBack_row_tie rfl ⟨rfl, rfl⟩ (by kernel_rfl) rfl hashBack_plain (by kernel_rfl)
#print axioms hashBack_card
end Go.Proofs.YtmgjlldccmgpcaaDoor
