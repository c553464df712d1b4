/-
  Texts between quotes: the plain answers' own.
-/
import Derived.Test.YtinjdlplbficiaaGreatDoorUq
import Derived.Test.YtinjdlplbficiaaGreatDoorSr
import Derived.Laws.BytesArg
namespace Go.Proofs.YtinjdlplbficiaaGreatDoor
set_option linter.unusedVariables false
set_option linter.unusedSimpArgs false
open Go.RowKit
section
set_option maxHeartbeats 1600000
set_option maxRecDepth 100000
theorem runq_any (s : ByteArray) (w : World) (hl : s.size ≤ 1000000) : Calls Tryz.prog 56 #[.string s] w fun e w' =>
    e = .returned (.tuple #[.string (mkB (unqP (bl s)).1), .int .i64 ((unqP (bl s)).2.1 : Nat), .int .i64 ((unqP (bl s)).2.2 : Nat)]) ∧ Below w.heap.size w w' := by
  obtain ⟨i0, hi, hz0, hz1, hz2⟩ := info_parts infoU8
  by_cases hz : s.size = 0
  · obtain rfl := size_zero hz
    have e : unqP (bl ⟨#[]⟩) = ([], 0, 6) := rfl
    rw [e]
    clear e hz hl
    go_enter Tryz.func56, Tryz.ntmps56
    go_wp2
    go_ret3
    exact ⟨rfl, Below.refl _ _⟩
  · obtain ⟨e1, e2⟩ := ne_empty hz
    have hix : ∀ u, (Instr.index 9 (.string s) (.int .i64 0)).run Tryz.prog u = .ok (.int .u8 (byN s 0 : Nat)) u := fun u => run_index_s u s .i64 0 (by omega)
    have hd0 := drop_byte (s := s) (k := 0) (by omega)
    have hb0 := byN_lt s 0
    rw [List.drop_zero] at hd0
    generalize byN s 0 = c0 at hix hd0 hb0
    obtain ⟨R, hR⟩ : ∃ R, R = unqP (bl s) := ⟨_, rfl⟩
    rw [← hR]
    by_cases hq : c0 = 34
    · subst hq
      have hst : R = unqGo ((bl s).drop 1) [] 1 := by rw [hR, hd0, unqP_cons]; rw [show UInt8.ofNat 34 = 34 from rfl, if_pos rfl]; rw [show (34 :: (bl s).drop (0 + 1)).drop 1 = (bl s).drop 1 from rfl]
      have hown := own_empty w 5
      have hbw0 : Below w.heap.size w (w.alloc (.cells #[] 5)) := (Below.refl _ w).alloc (Nat.le_refl _) _
      have HST := Lib.hid hst; clear hst hd0 hR
      have HI := Lib.hid hi; have HZ0 := Lib.hid hz0; have HZ1 := Lib.hid hz1; have HZ2 := Lib.hid hz2
      have HBW0 := Lib.hid hbw0; have HOWN := Lib.hid hown
      clear hi hz0 hz1 hz2 hbw0 hown
      go_enter Tryz.func56, Tryz.ntmps56
      go_wp2
      clear hix
      go_loopw [5, 6] (fun s5 s6 wr => ∃ (k : Nat) (acc : Bs), s6 = .int .i64 k ∧ k ≤ s.size ∧ acc.length ≤ k ∧ 1 ≤ k ∧ Aside (wr.ownsRow w.heap.size 5 1 s5 acc.length (acc.map Bv)) ∧ Aside (Below w.heap.size w wr) ∧ Aside (R = unqGo ((bl s).drop k) acc k)) (fun _ s6 _ => s.size - (intOf s6).toNat)
      case atStart => exact ⟨1, [], rfl, by omega, by simp, Nat.le_refl _, HOWN.out, HBW0.out, HST.out⟩
      case round =>
        obtain ⟨k, acc, rfl, hk, hal, hk1, OW, BW, E⟩ := hrel
        have k0 : (0 : Int) ≤ (k : Int) := by omega
        obtain ⟨A5, c5, hv5, hrd, -⟩ := own_rd OW.out
        subst hv5
        have HRD := Lib.hid hrd; clear hrd
        by_cases hlt : k < s.size
        · have k1 : (k : Int) < (s.size : Int) := by omega
          have hix := fun (u : World) => run_index_s u s .i64 k hlt
          have hd := drop_byte hlt
          have hc := byN_lt s k
          have HE := Lib.hid (E.out.trans (by rw [hd])); clear E hd
          generalize byN s k = c at hix hc HE
          by_cases h1 : c = 34
          · subst h1
            have hr : R = (acc, k + 1, 0) := by rw [HE.out]; exact unqGo_quote _ _ _
            subst hr
            have hs := run_str wr A5 c5 acc HRD.out
            go_wp2
            go_ret3
            exact ⟨rfl, BW.out⟩
          · have g1 : ((c : Int) == 34) = false := beq_eq_false_iff_ne.2 (by omega)
            by_cases h2 : c = 10
            · subst h2
              have hr : R = ([], 0, 8) := by rw [HE.out]; exact unqGo_line _ _ _
              subst hr
              go_wp2
              go_ret3
              exact ⟨rfl, BW.out⟩
            · have g2 : ((c : Int) == 10) = false := beq_eq_false_iff_ne.2 (by omega)
              by_cases h3 : c = 92
              · subst h3
                by_cases hlast : k + 1 = s.size
                · have hr : R = ([], 0, 6) := by rw [HE.out, hlast, ← bl_len, List.drop_length]; exact unqGo_back _ _
                  subst hr
                  have g3 : ((k : Int) + 1 == (s.size : Int)) = true := by rw [beq_iff_eq]; omega
                  go_wp2
                  go_ret3
                  exact ⟨rfl, BW.out⟩
                · have hlt2 : k + 1 < s.size := by omega
                  have g3 : ((k : Int) + 1 == (s.size : Int)) = false := beq_eq_false_iff_ne.2 (by omega)
                  have k2 : (k : Int) + 1 < (s.size : Int) := by omega
                  have hix2 : ∀ u, (Instr.index 9 (.string s) (.int .i64 ((k : Int) + 1))).run Tryz.prog u = .ok (.int .u8 (byN s (k + 1) : Nat)) u := fun u => by
                    have := run_index_s u s .i64 (k + 1) hlt2
                    rwa [Int.natCast_add] at this
                  have hd := drop_byte hlt2
                  have hd' := byN_lt s (k + 1)
                  have HF := Lib.hid (HE.out.trans (by rw [hd])); clear HE hd
                  generalize byN s (k + 1) = d at hix2 hd' HF
                  by_cases h4 : d = 34 ∨ d = 92
                  · have hst : R = unqGo ((bl s).drop (k + 2)) (acc ++ [UInt8.ofNat d]) (k + 2) := by
                      rw [HF.out]
                      refine unqGo_esc _ _ _ _ ?_
                      rcases h4 with rfl | rfl
                      · exact .inl rfl
                      · exact .inr rfl
                    have HST2 := Lib.hid hst; clear hst HF
                    have g4 : ((d : Int) == 110) = false := beq_eq_false_iff_ne.2 (by omega)
                    rcases h4 with rfl | rfl
                    all_goals
                      have hi := HI.out; have hz0 := HZ0.out; have hz1 := HZ1.out; have hz2 := HZ2.out
                      have hbs := BW.out.size
                      go_wp2_with (first
                        | (at_builtin; go_must (refine wpList_append_own _ rfl _ _ 45 rfl w.heap.size 5 i0 (.int .u8 0) 1 1 Tryz.underlying45 hi hz0 hz1 hz2 rfl (by decide) _ acc.length (acc.map Bv) rfl (OW.out.alloc _) ⟨wr.heap.size, 0, none⟩ 1 1 [.int .u8 _] rfl rfl (World.news_of_block (heap_alloc_new _ _)) (by simp [Value.oneCell']) (by unfold maxLen; omega) (by omega) (by simp; omega) ?_; intro v3 w3 own3 grow3 _))
                        | fail)
                      have hb3 : Below w.heap.size w w3 := (BW.out.alloc hbs _).grown grow3 (by simp; omega) (fun k h => (OW.out.lt k h).1)
                      have own4 := snoc_own  own3 rfl (by omega)
                      have HB3 := Lib.hid hb3; clear hb3 grow3
                      have HO4 := Lib.hid own4; clear own4 own3 hi hz0 hz1 hz2
                      go_wp2
                      go_roundw
                      case rel => exact ⟨k + 2, acc ++ [UInt8.ofNat _], by go_num, by omega, by rw [List.length_append, List.length_singleton]; omega, by omega, (show Aside _ from HO4.out), (show Aside _ from HB3.out), (show Aside _ from HST2.out)⟩
                      case measure => simp [intOf]; omega
                  · have n1 : ((d : Int) != 34) = true := by rw [bne_iff_ne]; omega
                    have n2 : ((d : Int) != 92) = true := by rw [bne_iff_ne]; omega
                    by_cases h5 : d = 110
                    · subst h5
                      have hst : R = unqGo ((bl s).drop (k + 2)) (acc ++ [UInt8.ofNat 10]) (k + 2) := by rw [HF.out]; exact unqGo_n _ _ _
                      have HST2 := Lib.hid hst; clear hst HF h4
                      have hi := HI.out; have hz0 := HZ0.out; have hz1 := HZ1.out; have hz2 := HZ2.out
                      have hbs := BW.out.size
                      go_wp2_with (first
                        | (at_builtin; go_must (refine wpList_append_own _ rfl _ _ 45 rfl w.heap.size 5 i0 (.int .u8 0) 1 1 Tryz.underlying45 hi hz0 hz1 hz2 rfl (by decide) _ acc.length (acc.map Bv) rfl (OW.out.alloc _) ⟨wr.heap.size, 0, none⟩ 1 1 [.int .u8 10] rfl rfl (World.news_of_block (heap_alloc_new _ _)) (by simp [Value.oneCell']) (by unfold maxLen; omega) (by omega) (by simp; omega) ?_; intro v3 w3 own3 grow3 _))
                        | fail)
                      have hb3 : Below w.heap.size w w3 := (BW.out.alloc hbs _).grown grow3 (by simp; omega) (fun k h => (OW.out.lt k h).1)
                      have own4 := snoc_own (n := 10) own3 rfl (by omega)
                      have HB3 := Lib.hid hb3; clear hb3 grow3
                      have HO4 := Lib.hid own4; clear own4 own3 hi hz0 hz1 hz2
                      go_wp2
                      go_roundw
                      case rel => exact ⟨k + 2, acc ++ [UInt8.ofNat 10], by go_num, by omega, by rw [List.length_append, List.length_singleton]; omega, by omega, (show Aside _ from HO4.out), (show Aside _ from HB3.out), (show Aside _ from HST2.out)⟩
                      case measure => simp [intOf]; omega
                    · have hr : R = ([], 0, 8) := by
                        rw [HF.out]
                        refine unqGo_bad _ _ _ _ (fun h => h4 ?_) (fun h => h5 ?_)
                        · rcases h with h | h
                          · left; have := congrArg UInt8.toNat h; rwa [ofNat_toNat hd'] at this
                          · right; have := congrArg UInt8.toNat h; rwa [ofNat_toNat hd'] at this
                        · have := congrArg UInt8.toNat h; rwa [ofNat_toNat hd'] at this
                      subst hr
                      have n3 : ((d : Int) != 110) = true := by rw [bne_iff_ne]; omega
                      clear h4
                      go_wp2
                      go_ret3
                      exact ⟨rfl, BW.out⟩
              · have g3 : ((c : Int) == 92) = false := beq_eq_false_iff_ne.2 (by omega)
                have ne (n : Nat) (hn : n < 256) (h : ¬ c = n) : UInt8.ofNat c ≠ UInt8.ofNat n := fun e => h (by
                  have := congrArg UInt8.toNat e; rwa [ofNat_toNat hc, ofNat_toNat hn] at this)
                have hst : R = unqGo ((bl s).drop (k + 1)) (acc ++ [UInt8.ofNat c]) (k + 1) := by
                  rw [HE.out]
                  exact unqGo_plain _ _ _ _ (ne 34 (by omega) h1) (ne 10 (by omega) h2) (ne 92 (by omega) h3)
                have HST2 := Lib.hid hst; clear hst HE ne
                have hi := HI.out; have hz0 := HZ0.out; have hz1 := HZ1.out; have hz2 := HZ2.out
                have hbs := BW.out.size
                go_wp2_with (first
                  | (at_builtin; go_must (refine wpList_append_own _ rfl _ _ 45 rfl w.heap.size 5 i0 (.int .u8 0) 1 1 Tryz.underlying45 hi hz0 hz1 hz2 rfl (by decide) _ acc.length (acc.map Bv) rfl (OW.out.alloc _) ⟨wr.heap.size, 0, none⟩ 1 1 [.int .u8 (c : Nat)] rfl rfl (World.news_of_block (heap_alloc_new _ _)) (by simp [Value.oneCell']) (by unfold maxLen; omega) (by omega) (by simp; omega) ?_; intro v3 w3 own3 grow3 _))
                  | fail)
                have hb3 : Below w.heap.size w w3 := (BW.out.alloc hbs _).grown grow3 (by simp; omega) (fun k h => (OW.out.lt k h).1)
                have own4 := snoc_own (n := c) own3 rfl (by omega)
                have HB3 := Lib.hid hb3; clear hb3 grow3
                have HO4 := Lib.hid own4; clear own4 own3 hi hz0 hz1 hz2
                go_wp2
                go_roundw
                case rel => exact ⟨k + 1, acc ++ [UInt8.ofNat c], by go_num, by omega, by rw [List.length_append, List.length_singleton]; omega, by omega, (show Aside _ from HO4.out), (show Aside _ from HB3.out), (show Aside _ from HST2.out)⟩
                case measure => simp [intOf]; omega
        · obtain rfl : k = s.size := by omega
          have hr : R = ([], 0, 6) := by rw [E.out, ← bl_len, List.drop_length]; exact unqGo_end _ _
          subst hr
          go_wp2
          go_ret3
          exact ⟨rfl, BW.out⟩
    · have e : R = ([], 0, 8) := by
        rw [hR, hd0, unqP_cons, if_neg]
        intro h
        have := congrArg UInt8.toNat h
        rw [ofNat_toNat hb0] at this
        exact hq this
      subst e
      clear hR hd0
      have g1 : ((c0 : Int) != 34) = true := by rw [bne_iff_ne]; omega
      go_enter Tryz.func56, Tryz.ntmps56
      go_wp2
      go_ret3
      exact ⟨rfl, Below.refl _ _⟩
end
end Go.Proofs.YtinjdlplbficiaaGreatDoor
