/-
  Print: the plain answers' own.
-/
import Derived.Test.YtpdbpgebgjgbkaaDoorRq
import Derived.Test.YtpdbpgebgjgbkaaDoorPr
namespace Go.Proofs.YtpdbpgebgjgbkaaDoor
set_option linter.unusedVariables false
set_option linter.unusedSimpArgs false
open Go.RowKit
section
set_option maxHeartbeats 1600000
set_option maxRecDepth 100000
theorem rquote_same (s : ByteArray) (w : World) (hl : s.size ≤ 1000000) : Calls Tryd.prog 29 #[.string s] w fun e w' =>
    e = .returned (.string (mkB (quoteP (bl s)))) ∧ w = w' := by
  obtain ⟨R, hR⟩ : ∃ R, R = quoteP (bl s) := ⟨_, rfl⟩
  rw [← hR]
  have hst : R = [34] ++ (((bl s).drop 0).flatMap escP ++ [34]) := by rw [hR]; rfl
  have HST := Lib.hid hst; clear hst hR
  go_enter Tryd.func29, Tryd.ntmps29
  go_wp2
  go_loopw [3, 7] (fun s3 s7 wr => ∃ (k : Nat) (q : ByteArray), s3 = .string q ∧ s7 = .int .i64 k ∧ k ≤ s.size ∧ q.size ≤ 2 * k + 1 ∧ Aside (w = wr) ∧ Aside (R = bl q ++ (((bl s).drop k).flatMap escP ++ [34]))) (fun _ s7 _ => s.size - (intOf s7).toNat)
  case atStart => exact ⟨0, ⟨#[34]⟩, rfl, rfl, by omega, by decide, rfl, HST.out⟩
  case round =>
    obtain ⟨k, q, rfl, rfl, hk, hq, BW, E⟩ := hrel
    have k0 : (0 : Int) ≤ (k : Int) := by omega
    by_cases hlt : k < s.size
    · have k1 : (k : Int) < (s.size : Int) := by omega
      have k2 : (k : Int) + 1 ≤ (s.size : Int) := by omega
      have k3 : (k : Int) ≤ (k : Int) + 1 := by omega
      have hix := fun (u : World) => run_index_s u s .i64 k hlt
      have hone := bl_one s hlt
      have hsz1 : (s.extract k (k + 1)).size = 1 := by rw [← bl_len, hone]; rfl
      have hd := drop_byte hlt
      have hc := byN_lt s k
      have HE := Lib.hid (E.out.trans (by rw [hd, List.flatMap_cons])); clear E hd
      have HO := Lib.hid hone; clear hone
      generalize byN s k = c at hix hc HE HO
      by_cases h2 : c = 10
      · subst h2
        have hst2 : R = bl (q ++ ⟨#[92, 110]⟩) ++ (((bl s).drop (k + 1)).flatMap escP ++ [34]) := by
          rw [HE.out, bl_app, show escP (UInt8.ofNat 10) = [92, 110] from rfl, show bl (⟨#[92, 110]⟩ : ByteArray) = [92, 110] from rfl]; simp
        have HST2 := Lib.hid hst2; clear hst2 HE HO
        have hqs : (q ++ (⟨#[92, 110]⟩ : ByteArray)).size ≤ 2 * (k + 1) + 1 := by rw [ByteArray.size_append]; show q.size + 2 ≤ _; omega
        have HQS := Lib.hid hqs; clear hqs
        go_wp2
        go_roundw
        case rel => exact ⟨k + 1, q ++ (⟨#[92, 110]⟩ : ByteArray), rfl, by go_num, by omega, HQS.out, (show Aside _ from BW.out), (show Aside _ from HST2.out)⟩
        case measure => simp [intOf]; omega
      · have g2 : ((c : Int) == 10) = false := beq_eq_false_iff_ne.2 (by omega)
        by_cases h4 : c = 34
        · subst h4
          have hst2 : R = bl (q ++ (⟨#[92]⟩ ++ s.extract k (k + 1))) ++ (((bl s).drop (k + 1)).flatMap escP ++ [34]) := by
            rw [HE.out, bl_app, bl_app, HO.out, show escP (UInt8.ofNat 34) = [92, 34] from rfl, show bl (⟨#[92]⟩ : ByteArray) = [92] from rfl]; simp
          have HST2 := Lib.hid hst2; clear hst2 HE HO
          have hqs : (q ++ (⟨#[92]⟩ ++ s.extract k (k + 1))).size ≤ 2 * (k + 1) + 1 := by rw [ByteArray.size_append, ByteArray.size_append, hsz1]; show q.size + (1 + 1) ≤ _; omega
          have HQS := Lib.hid hqs; clear hqs
          go_wp2
          go_roundw
          case rel => exact ⟨k + 1, q ++ ((⟨#[92]⟩ : ByteArray) ++ s.extract k (k + 1)), rfl, by go_num, by omega, HQS.out, (show Aside _ from BW.out), (show Aside _ from HST2.out)⟩
          case measure => simp [intOf]; omega
        · have g3 : ((c : Int) == 34) = false := beq_eq_false_iff_ne.2 (by omega)
          by_cases h5 : c = 92
          · subst h5
            have hst2 : R = bl (q ++ (⟨#[92]⟩ ++ s.extract k (k + 1))) ++ (((bl s).drop (k + 1)).flatMap escP ++ [34]) := by
              rw [HE.out, bl_app, bl_app, HO.out, show escP (UInt8.ofNat 92) = [92, 92] from rfl, show bl (⟨#[92]⟩ : ByteArray) = [92] from rfl]; simp
            have HST2 := Lib.hid hst2; clear hst2 HE HO
            have hqs : (q ++ (⟨#[92]⟩ ++ s.extract k (k + 1))).size ≤ 2 * (k + 1) + 1 := by rw [ByteArray.size_append, ByteArray.size_append, hsz1]; show q.size + (1 + 1) ≤ _; omega
            have HQS := Lib.hid hqs; clear hqs
            go_wp2
            go_roundw
            case rel => exact ⟨k + 1, q ++ ((⟨#[92]⟩ : ByteArray) ++ s.extract k (k + 1)), rfl, by go_num, by omega, HQS.out, (show Aside _ from BW.out), (show Aside _ from HST2.out)⟩
            case measure => simp [intOf]; omega
          · have g4 : ((c : Int) == 92) = false := beq_eq_false_iff_ne.2 (by omega)
            have ne (n : Nat) (hn : n < 256) (h : ¬ c = n) : UInt8.ofNat c ≠ UInt8.ofNat n := fun e => h (by
              have := congrArg UInt8.toNat e; rwa [ofNat_toNat hc, ofNat_toNat hn] at this)
            have n1 : UInt8.ofNat c ≠ 10 := ne 10 (by omega) h2
            have n2 : UInt8.ofNat c ≠ 34 := ne 34 (by omega) h4
            have n3 : UInt8.ofNat c ≠ 92 := ne 92 (by omega) h5
            have hst2 : R = bl (q ++ s.extract k (k + 1)) ++ (((bl s).drop (k + 1)).flatMap escP ++ [34]) := by
              have e : escP (UInt8.ofNat c) = [UInt8.ofNat c] := by
                unfold escP
                rw [if_neg n1, if_neg]
                rintro (h | h)
                · exact n2 h
                · exact n3 h
              rw [HE.out, bl_app, HO.out, e]; simp
            have HST2 := Lib.hid hst2; clear hst2 HE HO ne n1 n2 n3
            have hqs : (q ++ s.extract k (k + 1)).size ≤ 2 * (k + 1) + 1 := by rw [ByteArray.size_append, hsz1]; omega
            have HQS := Lib.hid hqs; clear hqs
            go_wp2
            go_roundw
            case rel => exact ⟨k + 1, q ++ s.extract k (k + 1), rfl, by go_num, by omega, HQS.out, (show Aside _ from BW.out), (show Aside _ from HST2.out)⟩
            case measure => simp [intOf]; omega
    · obtain rfl : k = s.size := by omega
      have hr0 : R = bl (q ++ (⟨#[34]⟩ : ByteArray)) := by
        rw [E.out, ← bl_len, List.drop_length, List.flatMap_nil, List.nil_append, bl_app]; rfl
      have hr : mkB R = q ++ ⟨#[34]⟩ := by rw [hr0, mk_bl]
      clear hr0
      have HRR := Lib.hid hr; clear hr
      go_wp2
      go_ret
      exact ⟨by rw [HRR.out]; rfl, BW.out⟩
theorem rprint_any (A : Option Addr) (c : Nat) (l : List Lb) (w : World) (hx : Rd w A (lcells l)) (hf : Few l) : Calls Tryd.prog 33 #[.slice A l.length c] w fun e w' =>
    e = .returned (.string (mkB (printP l))) ∧ Below w.heap.size w w' := by
  obtain ⟨R, hR⟩ : ∃ R, R = printP l := ⟨_, rfl⟩
  rw [← hR]
  have hst : R = bl ⟨#[123]⟩ ++ printFrom 0 (l.drop 0) := by rw [hR]; rfl
  have HST := Lib.hid hst; clear hst hR
  have hfl := hf.1
  have HF := Lib.hid hf; clear hf
  go_enter Tryd.func33, Tryd.ntmps33
  go_wp2
  go_loopw [3, 8] (fun s3 s8 wr => ∃ (k : Nat) (q : ByteArray), s3 = .string q ∧ s8 = .int .i64 k ∧ k ≤ l.length ∧ q.size ≤ k * 20000 + 1 ∧ Aside (RowKit.Below w.heap.size w wr) ∧ Aside (R = bl q ++ printFrom k (l.drop k))) (fun _ s8 _ => l.length - (intOf s8).toNat)
  case atStart => exact ⟨0, ⟨#[123]⟩, rfl, rfl, by omega, by decide, Below.refl _ _, HST.out⟩
  case round =>
    obtain ⟨k, q, rfl, rfl, hk, hq, BW, E⟩ := hrel
    have k0 : (0 : Int) ≤ (k : Int) := by omega
    by_cases hlt : k < l.length
    · have k1 : (k : Int) < (l.length : Int) := by omega
      obtain ⟨b, off, rfl, c0, c1⟩ := lb_at (hx.below BW.out) hlt
      have hfx := HF.out.2 l[k] (List.getElem_mem hlt)
      have hE : R = bl q ++ ((if k = 0 then [] else [44, 32]) ++ labP l[k] ++ printFrom (k + 1) (l.drop (k + 1))) := by
        rw [E.out, List.drop_eq_getElem_cons hlt, printFrom]
      have HE := Lib.hid hE; clear hE E hx
      generalize l[k] = x at c0 c1 hfx HE
      obtain ⟨x1, x2⟩ := x
      simp only at hfx c0 c1
      obtain ⟨f1, f2⟩ := hfx
      have hbw : RowKit.Below w.heap.size w (wr.alloc (.cells #[.string x1, .string x2] 51)) := BW.out.alloc BW.out.size _
      have HBW := Lib.hid hbw; clear hbw
      have hqt : ∀ W, Calls Tryd.prog 29 #[.string x2] W fun e w' => e = .returned (.string (mkB (quoteP (bl x2)))) ∧ w' = W := fun W => (rquote_same x2 W (by omega)).mono fun _ _ h => ⟨h.1, h.2.symm⟩
      have hqs : (mkB (quoteP (bl x2))).size ≤ 2 * x2.size + 2 := by rw [mkB_size]; have := quoteP_le (bl x2); rw [bl_len] at this; exact this
      obtain ⟨u, huu⟩ : ∃ u, u = mkB (quoteP (bl x2)) := ⟨_, rfl⟩
      rw [← huu] at hqs
      have hub : bl u = quoteP (bl x2) := by rw [huu, bl_mk]
      simp only [← huu] at hqt
      have HQ := Lib.hid hqt; clear hqt huu
      have HUB := Lib.hid hub; clear hub
      have s1 : (x1 ++ (⟨#[61]⟩ : ByteArray)).size = x1.size + 1 := by rw [ByteArray.size_append]; rfl
      have s2 : ((x1 ++ (⟨#[61]⟩ : ByteArray)) ++ u).size = x1.size + 1 + u.size := by rw [ByteArray.size_append, s1]
      have n1 : ¬ 9223372036854775807 < x1.size + 1 := by omega
      have n2 : ¬ 9223372036854775807 < x1.size + (⟨#[61]⟩ : ByteArray).size := by show ¬ _ < x1.size + 1; omega
      have n3 : ¬ 9223372036854775807 < (x1 ++ (⟨#[61]⟩ : ByteArray)).size + u.size := by rw [s1]; omega
      have n4 : ¬ 9223372036854775807 < x1.size + 1 + u.size := by omega
      have n4' : ¬ 9223372036854775807 < x1.size + (⟨#[61]⟩ : ByteArray).size + u.size := by show ¬ _ < x1.size + 1 + u.size; omega
      by_cases h0 : k = 0
      · subst h0
        rw [Nat.zero_mul, Nat.add_zero] at c0 c1
        have n5 : ¬ 9223372036854775807 < q.size + ((x1 ++ (⟨#[61]⟩ : ByteArray)) ++ u).size := by rw [s2]; omega
        have n6 : ¬ 9223372036854775807 < q.size + (x1.size + 1 + u.size) := by omega
        have n7 : ¬ 9223372036854775807 < q.size + (x1.size + (⟨#[61]⟩ : ByteArray).size + u.size) := by show ¬ _ < q.size + (x1.size + 1 + u.size); omega
        have HE2 := Lib.hid (show R = bl (q ++ ((x1 ++ (⟨#[61]⟩ : ByteArray)) ++ u)) ++ printFrom 1 (l.drop 1) by
          rw [HE.out, bl_app, bl_app, bl_app, HUB.out, show bl (⟨#[61]⟩ : ByteArray) = [61] from rfl]; simp [labP]); clear HE
        have HS2 := Lib.hid s2
        have hqq : (q ++ ((x1 ++ (⟨#[61]⟩ : ByteArray)) ++ u)).size ≤ 1 * 20000 + 1 := by rw [ByteArray.size_append, s2]; omega
        have HQQ := Lib.hid hqq; clear hqq s1 s2
        go_wp2_with fail
        go_quiet (with_reducible exact Calls.quiet_of_same (HQ.out _))
        go_wp2
        go_roundw
        case rel => exact ⟨1, _, rfl, by go_num, by omega, HQQ.out, (show Aside _ from below_drewN HBW.out _), (show Aside _ from HE2.out)⟩
        case measure => simp [intOf]; omega
      · have g0 : (0 : Int) < (k : Int) := by omega
        have n5 : ¬ 9223372036854775807 < (q ++ (⟨#[44, 32]⟩ : ByteArray)).size + ((x1 ++ (⟨#[61]⟩ : ByteArray)) ++ u).size := by rw [s2, ByteArray.size_append]; show ¬ _ < q.size + 2 + _; omega
        have n6 : ¬ 9223372036854775807 < q.size + 2 + (x1.size + 1 + u.size) := by omega
        have n7 : ¬ 9223372036854775807 < q.size + (⟨#[44, 32]⟩ : ByteArray).size + (x1.size + (⟨#[61]⟩ : ByteArray).size + u.size) := by show ¬ _ < q.size + 2 + (x1.size + 1 + u.size); omega
        have s3 : (q ++ (⟨#[44, 32]⟩ : ByteArray)).size = q.size + 2 := by rw [ByteArray.size_append]; rfl
        have HE2 := Lib.hid (show R = bl ((q ++ (⟨#[44, 32]⟩ : ByteArray)) ++ ((x1 ++ (⟨#[61]⟩ : ByteArray)) ++ u)) ++ printFrom (k + 1) (l.drop (k + 1)) by
          rw [HE.out, bl_app, bl_app, bl_app, bl_app, HUB.out, if_neg h0, show bl (⟨#[61]⟩ : ByteArray) = [61] from rfl, show bl (⟨#[44, 32]⟩ : ByteArray) = [44, 32] from rfl]; simp [labP]); clear HE
        have hqq : ((q ++ (⟨#[44, 32]⟩ : ByteArray)) ++ ((x1 ++ (⟨#[61]⟩ : ByteArray)) ++ u)).size ≤ (k + 1) * 20000 + 1 := by rw [ByteArray.size_append, s3, s2]; omega
        have HQQ := Lib.hid hqq; clear hqq s1 s2 s3
        go_wp2_with fail
        go_quiet (with_reducible exact Calls.quiet_of_same (HQ.out _))
        go_wp2
        go_roundw
        case rel => exact ⟨k + 1, _, rfl, by go_num, by omega, HQQ.out, (show Aside _ from below_drewN HBW.out _), (show Aside _ from HE2.out)⟩
        case measure => simp [intOf]; omega
    · obtain rfl : k = l.length := by omega
      have hr0 : R = bl (q ++ (⟨#[125]⟩ : ByteArray)) := by rw [E.out, List.drop_length, bl_app]; rfl
      have hr : mkB R = q ++ ⟨#[125]⟩ := by rw [hr0, mk_bl]
      clear hr0
      have HRR := Lib.hid hr; clear hr
      go_wp2
      go_ret
      exact ⟨by rw [HRR.out]; rfl, BW.out⟩
end
end Go.Proofs.YtpdbpgebgjgbkaaDoor
