/-
  Unquote: the program's own.
-/
import Derived.Test.YtinjdlplbficiaaGreatDoorBs
import Derived.Test.YtinjdlplbficiaaGreatDoorLb
import Derived.Test.YtinjdlplbficiaaGreatDoorNa
namespace Go.Proofs.YtinjdlplbficiaaGreatDoor
set_option linter.unusedVariables false
set_option linter.unusedSimpArgs false
open Go.RowKit
/-- A text's byte, behind a word of its own. -/
def byN (s : ByteArray) (k : Nat) : Nat := ((bl s).getD k 0).toNat
theorem byN_lt (s : ByteArray) (k : Nat) : byN s k < 256 := UInt8.toNat_lt _
theorem run_index_s (w : World) (s : ByteArray) (k : IntKind) (d : Nat) (hd : d < s.size) :
    (Instr.index 9 (.string s) (.int k (d : Nat))).run Tryz.prog w = .ok (.int .u8 (byN s d : Nat)) w := by
  have hs : s[d]? = some ((bl s).getD d 0) := by
    show (if h : d < s.size then some s[d] else none) = _
    rw [dif_pos hd, get_bl s hd]
    simp [List.getD, bl_len, hd]
  unfold byN
  simp [Instr.index, asIntOf, run_underlying Tryz.underlying9, hs]
theorem drop_byte {s : ByteArray} {k : Nat} (h : k < s.size) : (bl s).drop k = UInt8.ofNat (byN s k) :: (bl s).drop (k + 1) := by
  have h' : k < (bl s).length := by rw [bl_len]; exact h
  rw [List.drop_eq_getElem_cons h']
  congr 1
  simp [byN, List.getD, h']
section
set_option maxHeartbeats 1600000
set_option maxRecDepth 100000
theorem meant_any (c : Nat) (w : World) (hc : c < 256) : Calls Tryz.prog 71 #[.int .u8 (c : Nat)] w fun e w' =>
    e = .returned (if c = 34 ∨ c = 92 then .tuple #[.int .u8 (c : Nat), .bool true] else if c = 110 then .tuple #[.int .u8 10, .bool true] else .tuple #[.int .u8 0, .bool false]) ∧ w = w' := by
  by_cases h1 : c = 34
  · subst h1; go_enter Tryz.func71, Tryz.ntmps71; go_wp2; go_ret2; exact ⟨rfl, rfl⟩
  · by_cases h2 : c = 92
    · subst h2; go_enter Tryz.func71, Tryz.ntmps71; go_wp2; go_ret2; exact ⟨rfl, rfl⟩
    · by_cases h3 : c = 110
      · subst h3; go_enter Tryz.func71, Tryz.ntmps71; go_wp2; go_ret2; exact ⟨rfl, rfl⟩
      · have g1 : ((c : Int) == 34) = false := beq_eq_false_iff_ne.2 (by omega)
        have g2 : ((c : Int) == 92) = false := beq_eq_false_iff_ne.2 (by omega)
        have g3 : ((c : Int) == 110) = false := beq_eq_false_iff_ne.2 (by omega)
        rw [if_neg (by omega), if_neg h3]
        go_enter Tryz.func71, Tryz.ntmps71; go_wp2; go_ret2; exact ⟨rfl, rfl⟩
theorem unq_any (s : ByteArray) (w : World) (hl : s.size ≤ 1000000) : Calls Tryz.prog 54 #[.string s] w fun e w' =>
    e = .returned (.tuple #[.string (mkB (unqP (bl s)).1), .int .i64 ((unqP (bl s)).2.1 : Nat), .int .i64 ((unqP (bl s)).2.2 : Nat)]) ∧ Below w.heap.size w w' := by
  by_cases hz : s.size = 0
  · obtain rfl := size_zero hz
    have e : unqP (bl ⟨#[]⟩) = ([], 0, 6) := rfl
    rw [e]
    clear e hz hl
    go_enter Tryz.func54, Tryz.ntmps54
    go_wp2
    go_step3
    go_wp2
    go_step3
    go_wp2
    go_loopw [6] (fun s6 wr => s6 = .int .i64 1 ∧ Below w.heap.size w wr) (fun _ _ => 0)
    case atStart => exact ⟨rfl, (Below.refl _ w).alloc (Nat.le_refl _) _⟩
    case round =>
      obtain ⟨rfl, hb⟩ := hrel
      go_wp2
      rw [Exit.noGoto_ret]; go_ret3
      exact ⟨rfl, hb⟩
  · obtain ⟨e1, e2⟩ := ne_empty hz
    have hix : ∀ u, (Instr.index 9 (.string s) (.int .i64 0)).run Tryz.prog u = .ok (.int .u8 (byN s 0 : Nat)) u := fun u => run_index_s u s .i64 0 (by omega)
    have hd0 := drop_byte (s := s) (k := 0) (by omega)
    have hb0 := byN_lt s 0
    rw [List.drop_zero] at hd0
    generalize byN s 0 = c0 at hix hd0 hb0
    obtain ⟨R, hR⟩ : ∃ R, R = unqP (bl s) := ⟨_, rfl⟩
    rw [← hR]
    by_cases hq : c0 = 34
    · subst hq
      have hst : R = unqGo ((bl s).drop 1) [] 1 := by rw [hR, hd0, unqP_cons]; rw [show UInt8.ofNat 34 = 34 from rfl, if_pos rfl]; rw [show (34 :: (bl s).drop (0 + 1)).drop 1 = (bl s).drop 1 from rfl]
      have hbn := bld_new w
      have HST := Lib.hid hst; clear hst hd0 hR
      go_enter Tryz.func54, Tryz.ntmps54
      go_wp2
      go_step3
      go_wp2
      go_step3
      go_wp2
      clear hix
      go_loopw [6] (fun s6 wr => ∃ (k : Nat) (acc : Bs), s6 = .int .i64 k ∧ k ≤ s.size ∧ acc.length ≤ k ∧ 1 ≤ k ∧ Aside (Bld w.heap.size w.heap.size acc wr) ∧ Aside (RowKit.Below w.heap.size w wr) ∧ Aside (R = unqGo ((bl s).drop k) acc k)) (fun s6 _ => s.size - (intOf s6).toNat)
      case atStart => exact ⟨1, [], rfl, by omega, by simp, Nat.le_refl _, hbn, (RowKit.Below.refl _ w).alloc (Nat.le_refl _) _, HST.out⟩
      case round =>
        obtain ⟨k, acc, rfl, hk, hal, hk1, BL, BW, E⟩ := hrel
        have k0 : (0 : Int) ≤ (k : Int) := by omega
        by_cases hlt : k < s.size
        · have k1 : (k : Int) < (s.size : Int) := by omega
          have hix := fun (u : World) => run_index_s u s .i64 k hlt
          have hd := drop_byte hlt
          have hc := byN_lt s k
          have HE := Lib.hid (E.out.trans (by rw [hd])); clear E hd
          generalize byN s k = c at hix hc HE
          by_cases h1 : c = 34
          · subst h1
            have hr : R = (acc, k + 1, 0) := by rw [HE.out]; exact unqGo_quote _ _ _
            subst hr
            have hs := str_any w.heap.size w.heap.size acc wr BL.out BW.out.size
            have HS := Lib.hid hs; clear hs
            go_wp2_with (first | (go_at_call 19; refine HS.out.mono ?_; rintro e w1 ⟨rfl, hb⟩) | fail)
            rw [Exit.noGoto_ret]; go_ret3
            exact ⟨rfl, BW.out.trans hb⟩
          · have g1 : ((c : Int) == 34) = false := beq_eq_false_iff_ne.2 (by omega)
            by_cases h2 : c = 10
            · subst h2
              have hr : R = ([], 0, 8) := by rw [HE.out]; exact unqGo_line _ _ _
              subst hr
              go_wp2
              rw [Exit.noGoto_ret]; go_ret3
              exact ⟨rfl, BW.out⟩
            · have g2 : ((c : Int) == 10) = false := beq_eq_false_iff_ne.2 (by omega)
              by_cases h3 : c = 92
              · subst h3
                by_cases hlast : k + 1 = s.size
                · have hr : R = ([], 0, 6) := by rw [HE.out, hlast, ← bl_len, List.drop_length]; exact unqGo_back _ _
                  subst hr
                  have g3 : ((k : Int) + 1 == (s.size : Int)) = true := by rw [beq_iff_eq]; omega
                  go_wp2
                  rw [Exit.noGoto_ret]; go_ret3
                  exact ⟨rfl, BW.out⟩
                · have hlt2 : k + 1 < s.size := by omega
                  have g3 : ((k : Int) + 1 == (s.size : Int)) = false := beq_eq_false_iff_ne.2 (by omega)
                  have k2 : (k : Int) + 1 < (s.size : Int) := by omega
                  have hix2 : ∀ u, (Instr.index 9 (.string s) (.int .i64 ((k : Int) + 1))).run Tryz.prog u = .ok (.int .u8 (byN s (k + 1) : Nat)) u := fun u => by
                    have := run_index_s u s .i64 (k + 1) hlt2
                    rwa [Int.natCast_add] at this
                  have hd := drop_byte hlt2
                  have hd' := byN_lt s (k + 1)
                  have HF := Lib.hid (HE.out.trans (by rw [hd])); clear HE hd
                  generalize byN s (k + 1) = d at hix2 hd' HF
                  have hm := fun W => meant_any d W hd'
                  by_cases h4 : d = 34 ∨ d = 92
                  · have hst : R = unqGo ((bl s).drop (k + 2)) (acc ++ [UInt8.ofNat d]) (k + 2) := by
                      rw [HF.out]
                      refine unqGo_esc _ _ _ _ ?_
                      rcases h4 with rfl | rfl
                      · exact .inl rfl
                      · exact .inr rfl
                    have HST2 := Lib.hid hst; clear hst HF
                    simp only [if_pos h4] at hm
                    have hw := wb_any w.heap.size w.heap.size d acc wr BL.out BW.out.size hd' (by omega)
                    have HW := Lib.hid hw; clear hw h4
                    have HM := Lib.hid hm; clear hm
                    go_wp2_with (first | (go_at_call 71; refine (HM.out _).mono ?_; rintro e w1 ⟨rfl, rfl⟩) | (go_at_call 20; refine HW.out.mono ?_; rintro e w1 ⟨rfl, hbl, hb⟩; have HB := Lib.hid hb; clear hb; have HBL := Lib.hid hbl; clear hbl) | fail)
                    go_roundw
                    case rel => exact ⟨k + 2, acc ++ [UInt8.ofNat d], by go_num, by omega, by rw [List.length_append, List.length_singleton]; omega, by omega, (show Aside _ from HBL.out), (show Aside _ from BW.out.trans HB.out), (show Aside _ from HST2.out)⟩
                    case measure => simp [intOf]; omega
                  · by_cases h5 : d = 110
                    · subst h5
                      have hst : R = unqGo ((bl s).drop (k + 2)) (acc ++ [10]) (k + 2) := by rw [HF.out]; exact unqGo_n _ _ _
                      have HST2 := Lib.hid hst; clear hst HF
                      simp only [if_neg h4, if_true] at hm
                      have hw := wb_any w.heap.size w.heap.size 10 acc wr BL.out BW.out.size (by omega) (by omega)
                      have HW := Lib.hid hw; clear hw h4
                      have HM := Lib.hid hm; clear hm
                      go_wp2_with (first | (go_at_call 71; refine (HM.out _).mono ?_; rintro e w1 ⟨rfl, rfl⟩) | (go_at_call 20; refine HW.out.mono ?_; rintro e w1 ⟨rfl, hbl, hb⟩; have HB := Lib.hid hb; clear hb; have HBL := Lib.hid hbl; clear hbl) | fail)
                      go_roundw
                      case rel => exact ⟨k + 2, acc ++ [10], by go_num, by omega, by rw [List.length_append, List.length_singleton]; omega, by omega, (show Aside _ from HBL.out), (show Aside _ from BW.out.trans HB.out), (show Aside _ from HST2.out)⟩
                      case measure => simp [intOf]; omega
                    · have hr : R = ([], 0, 8) := by
                        rw [HF.out]
                        refine unqGo_bad _ _ _ _ (fun h => h4 ?_) (fun h => h5 ?_)
                        · rcases h with h | h
                          · left; have := congrArg UInt8.toNat h; rwa [ofNat_toNat hd'] at this
                          · right; have := congrArg UInt8.toNat h; rwa [ofNat_toNat hd'] at this
                        · have := congrArg UInt8.toNat h; rwa [ofNat_toNat hd'] at this
                      subst hr
                      simp only [if_neg h4, if_neg h5] at hm
                      have HM := Lib.hid hm; clear hm h4
                      go_wp2_with (first | (go_at_call 71; refine (HM.out _).mono ?_; rintro e w1 ⟨rfl, rfl⟩) | fail)
                      rw [Exit.noGoto_ret]; go_ret3
                      exact ⟨rfl, BW.out⟩
              · have g3 : ((c : Int) == 92) = false := beq_eq_false_iff_ne.2 (by omega)
                have ne (n : Nat) (hn : n < 256) (h : ¬ c = n) : UInt8.ofNat c ≠ UInt8.ofNat n := fun e => h (by
                  have := congrArg UInt8.toNat e; rwa [ofNat_toNat hc, ofNat_toNat hn] at this)
                have hst : R = unqGo ((bl s).drop (k + 1)) (acc ++ [UInt8.ofNat c]) (k + 1) := by
                  rw [HE.out]
                  exact unqGo_plain _ _ _ _ (ne 34 (by omega) h1) (ne 10 (by omega) h2) (ne 92 (by omega) h3)
                have HST2 := Lib.hid hst; clear hst HE ne
                have hw := wb_any w.heap.size w.heap.size c acc wr BL.out BW.out.size hc (by omega)
                have HW := Lib.hid hw; clear hw
                go_wp2_with (first | (go_at_call 20; refine HW.out.mono ?_; rintro e w1 ⟨rfl, hbl, hb⟩; have HB := Lib.hid hb; clear hb; have HBL := Lib.hid hbl; clear hbl) | fail)
                go_roundw
                case rel => exact ⟨k + 1, acc ++ [UInt8.ofNat c], by go_num, by omega, by rw [List.length_append, List.length_singleton]; omega, by omega, (show Aside _ from HBL.out), (show Aside _ from BW.out.trans HB.out), (show Aside _ from HST2.out)⟩
                case measure => simp [intOf]; omega
        · obtain rfl : k = s.size := by omega
          have hr : R = ([], 0, 6) := by rw [E.out, ← bl_len, List.drop_length]; exact unqGo_end _ _
          subst hr
          go_wp2
          rw [Exit.noGoto_ret]; go_ret3
          exact ⟨rfl, BW.out⟩
    · have e : R = ([], 0, 8) := by
        rw [hR, hd0, unqP_cons, if_neg]
        intro h
        have := congrArg UInt8.toNat h
        rw [ofNat_toNat hb0] at this
        exact hq this
      subst e
      clear hR hd0
      have g1 : ((c0 : Int) != 34) = true := by rw [bne_iff_ne]; omega
      go_enter Tryz.func54, Tryz.ntmps54
      go_wp2
      go_step3
      go_wp2
      rw [Exit.noGoto_ret]; go_ret3
      exact ⟨rfl, Below.refl _ _⟩
end
end Go.Proofs.YtinjdlplbficiaaGreatDoor
