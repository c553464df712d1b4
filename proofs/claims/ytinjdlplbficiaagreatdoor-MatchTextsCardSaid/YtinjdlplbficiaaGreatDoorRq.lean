/-
  Texts between quotes: the plain answers' Quote.
-/
import Derived.Test.YtinjdlplbficiaaGreatDoorQu
namespace Go.Proofs.YtinjdlplbficiaaGreatDoor
set_option linter.unusedVariables false
set_option linter.unusedSimpArgs false
open Go.RowKit
theorem bl_app (a b : ByteArray) : bl (a ++ b) = bl a ++ bl b := by unfold bl; rw [ByteArray.data_append, Array.toList_append]
theorem bl_one (s : ByteArray) {k : Nat} (h : k < s.size) : bl (s.extract k (k + 1)) = [UInt8.ofNat (byN s k)] := by
  have e : bl (s.extract k (k + 1)) = ((bl s).drop k).take 1 := by
    unfold bl
    rw [Lib.extract_data]
    congr 1
    omega
  rw [e, drop_byte h]; rfl
section
set_option maxHeartbeats 1600000
set_option maxRecDepth 100000
theorem rquote_any (s : ByteArray) (w : World) (hl : s.size ≤ 1000000) : Calls Tryz.prog 42 #[.string s] w fun e w' =>
    e = .returned (.string (mkB (quoteP (bl s)))) ∧ Below w.heap.size w w' := by
  obtain ⟨R, hR⟩ : ∃ R, R = quoteP (bl s) := ⟨_, rfl⟩
  rw [← hR]
  have hst : R = [34] ++ (((bl s).drop 0).flatMap escP ++ [34]) := by rw [hR]; rfl
  have HST := Lib.hid hst; clear hst hR
  go_enter Tryz.func42, Tryz.ntmps42
  go_wp2
  go_loopw [3, 7] (fun s3 s7 wr => ∃ (k : Nat) (q : ByteArray), s3 = .string q ∧ s7 = .int .i64 k ∧ k ≤ s.size ∧ q.size ≤ 2 * k + 1 ∧ Aside (Below w.heap.size w wr) ∧ Aside (R = bl q ++ (((bl s).drop k).flatMap escP ++ [34]))) (fun _ s7 _ => s.size - (intOf s7).toNat)
  case atStart => exact ⟨0, ⟨#[34]⟩, rfl, rfl, by omega, by decide, Below.refl _ _, HST.out⟩
  case round =>
    obtain ⟨k, q, rfl, rfl, hk, hq, BW, E⟩ := hrel
    have k0 : (0 : Int) ≤ (k : Int) := by omega
    by_cases hlt : k < s.size
    · have k1 : (k : Int) < (s.size : Int) := by omega
      have k2 : (k : Int) + 1 ≤ (s.size : Int) := by omega
      have k3 : (k : Int) ≤ (k : Int) + 1 := by omega
      have hix := fun (u : World) => run_index_s u s .i64 k hlt
      have hone := bl_one s hlt
      have hsz1 : (s.extract k (k + 1)).size = 1 := by rw [← bl_len, hone]; rfl
      have hd := drop_byte hlt
      have hc := byN_lt s k
      have HE := Lib.hid (E.out.trans (by rw [hd, List.flatMap_cons])); clear E hd
      have HO := Lib.hid hone; clear hone
      generalize byN s k = c at hix hc HE HO
      by_cases h2 : c = 10
      · subst h2
        have hst2 : R = bl (q ++ ⟨#[92, 110]⟩) ++ (((bl s).drop (k + 1)).flatMap escP ++ [34]) := by
          rw [HE.out, bl_app, show escP (UInt8.ofNat 10) = [92, 110] from rfl, show bl (⟨#[92, 110]⟩ : ByteArray) = [92, 110] from rfl]; simp
        have HST2 := Lib.hid hst2; clear hst2 HE HO
        have hqs : (q ++ (⟨#[92, 110]⟩ : ByteArray)).size ≤ 2 * (k + 1) + 1 := by rw [ByteArray.size_append]; show q.size + 2 ≤ _; omega
        have HQS := Lib.hid hqs; clear hqs
        go_wp2
        go_roundw
        case rel => exact ⟨k + 1, q ++ (⟨#[92, 110]⟩ : ByteArray), rfl, by go_num, by omega, HQS.out, (show Aside _ from BW.out), (show Aside _ from HST2.out)⟩
        case measure => simp [intOf]; omega
      · have g2 : ((c : Int) == 10) = false := beq_eq_false_iff_ne.2 (by omega)
        by_cases h4 : c = 34
        · subst h4
          have hst2 : R = bl (q ++ (⟨#[92]⟩ ++ s.extract k (k + 1))) ++ (((bl s).drop (k + 1)).flatMap escP ++ [34]) := by
            rw [HE.out, bl_app, bl_app, HO.out, show escP (UInt8.ofNat 34) = [92, 34] from rfl, show bl (⟨#[92]⟩ : ByteArray) = [92] from rfl]; simp
          have HST2 := Lib.hid hst2; clear hst2 HE HO
          have hqs : (q ++ (⟨#[92]⟩ ++ s.extract k (k + 1))).size ≤ 2 * (k + 1) + 1 := by rw [ByteArray.size_append, ByteArray.size_append, hsz1]; show q.size + (1 + 1) ≤ _; omega
          have HQS := Lib.hid hqs; clear hqs
          go_wp2
          go_roundw
          case rel => exact ⟨k + 1, q ++ ((⟨#[92]⟩ : ByteArray) ++ s.extract k (k + 1)), rfl, by go_num, by omega, HQS.out, (show Aside _ from BW.out), (show Aside _ from HST2.out)⟩
          case measure => simp [intOf]; omega
        · have g3 : ((c : Int) == 34) = false := beq_eq_false_iff_ne.2 (by omega)
          by_cases h5 : c = 92
          · subst h5
            have hst2 : R = bl (q ++ (⟨#[92]⟩ ++ s.extract k (k + 1))) ++ (((bl s).drop (k + 1)).flatMap escP ++ [34]) := by
              rw [HE.out, bl_app, bl_app, HO.out, show escP (UInt8.ofNat 92) = [92, 92] from rfl, show bl (⟨#[92]⟩ : ByteArray) = [92] from rfl]; simp
            have HST2 := Lib.hid hst2; clear hst2 HE HO
            have hqs : (q ++ (⟨#[92]⟩ ++ s.extract k (k + 1))).size ≤ 2 * (k + 1) + 1 := by rw [ByteArray.size_append, ByteArray.size_append, hsz1]; show q.size + (1 + 1) ≤ _; omega
            have HQS := Lib.hid hqs; clear hqs
            go_wp2
            go_roundw
            case rel => exact ⟨k + 1, q ++ ((⟨#[92]⟩ : ByteArray) ++ s.extract k (k + 1)), rfl, by go_num, by omega, HQS.out, (show Aside _ from BW.out), (show Aside _ from HST2.out)⟩
            case measure => simp [intOf]; omega
          · have g4 : ((c : Int) == 92) = false := beq_eq_false_iff_ne.2 (by omega)
            have ne (n : Nat) (hn : n < 256) (h : ¬ c = n) : UInt8.ofNat c ≠ UInt8.ofNat n := fun e => h (by
              have := congrArg UInt8.toNat e; rwa [ofNat_toNat hc, ofNat_toNat hn] at this)
            have n1 : UInt8.ofNat c ≠ 10 := ne 10 (by omega) h2
            have n2 : UInt8.ofNat c ≠ 34 := ne 34 (by omega) h4
            have n3 : UInt8.ofNat c ≠ 92 := ne 92 (by omega) h5
            have hst2 : R = bl (q ++ s.extract k (k + 1)) ++ (((bl s).drop (k + 1)).flatMap escP ++ [34]) := by
              have e : escP (UInt8.ofNat c) = [UInt8.ofNat c] := by
                unfold escP
                rw [if_neg n1, if_neg]
                rintro (h | h)
                · exact n2 h
                · exact n3 h
              rw [HE.out, bl_app, HO.out, e]; simp
            have HST2 := Lib.hid hst2; clear hst2 HE HO ne n1 n2 n3
            have hqs : (q ++ s.extract k (k + 1)).size ≤ 2 * (k + 1) + 1 := by rw [ByteArray.size_append, hsz1]; omega
            have HQS := Lib.hid hqs; clear hqs
            go_wp2
            go_roundw
            case rel => exact ⟨k + 1, q ++ s.extract k (k + 1), rfl, by go_num, by omega, HQS.out, (show Aside _ from BW.out), (show Aside _ from HST2.out)⟩
            case measure => simp [intOf]; omega
    · obtain rfl : k = s.size := by omega
      have hr0 : R = bl (q ++ (⟨#[34]⟩ : ByteArray)) := by
        rw [E.out, ← bl_len, List.drop_length, List.flatMap_nil, List.nil_append, bl_app]; rfl
      have hr : mkB R = q ++ ⟨#[34]⟩ := by rw [hr0, mk_bl]
      clear hr0
      have HRR := Lib.hid hr; clear hr
      go_wp2
      go_ret
      exact ⟨by rw [HRR.out]; rfl, BW.out⟩
end
end Go.Proofs.YtinjdlplbficiaaGreatDoor
