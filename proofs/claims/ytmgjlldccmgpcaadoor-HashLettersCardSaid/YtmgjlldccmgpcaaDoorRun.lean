/-
  Letters as bytes again: the plain answers' own.
-/
import Derived.Test.YtmgjlldccmgpcaaDoorRar
import Derived.Test.YtmgjlldccmgpcaaDoorUw
namespace Go.Proofs.YtmgjlldccmgpcaaDoor
set_option linter.unusedVariables false
set_option linter.unusedSimpArgs false
open Go.RowKit
theorem bytesOf_whole (l : List Bool) (q : Nat) (h : 8 * q ≤ l.length) : bytesOf (l.take (8 * q)) = bytesN q l := by
  have hl : (l.take (8 * q)).length = 8 * q := by rw [List.length_take]; omega
  unfold bytesOf bytesN
  rw [hl, show (8 * q + 7) / 8 = q by omega]
  refine List.map_congr_left fun i hi => ?_
  have := List.mem_range.1 hi
  congr 2
  rw [List.drop_take, List.take_take, show min 8 (8 * q - 8 * i) = 8 by omega]
/-- What the loop over letters holds. -/
def UnRel (w : World) (s : ByteArray) (s4 s11 : Value) (wr : World) : Prop := ∃ (k : Nat) (A : Option Addr) (c : Nat), k ≤ s.size ∧ s11 = .int .i64 k ∧ s4 = .slice A (6 * k) c ∧
  wr.ownsRow w.heap.size 4 1 s4 (unBits 6 armV ((bl s).take k)).length ((unBits 6 armV ((bl s).take k)).map Value.bool) ∧ RowKit.Below w.heap.size w wr ∧ ∀ x ∈ (bl s).take k, armV x < 64
section
set_option maxHeartbeats 1600000
set_option maxRecDepth 100000
theorem runarmor_any (s : ByteArray) (w : World) (hs : s.size ≤ 2000) : Calls Tryd.prog 27 #[.string s] w (BytesRes w (unP 6 armV (bl s))) := by
  obtain ⟨R, hR⟩ : ∃ R, R = unP 6 armV (bl s) := ⟨_, rfl⟩
  rw [← hR]
  have HR := Lib.hid hR; clear hR
  have HBL := Lib.hid (bl_len s)
  have ho0 : (w.alloc (.cells #[] 4)).ownsRow w.heap.size 4 1 (.slice (some ⟨w.heap.size, 0, none⟩) 0 0) 0 [] := World.ownsRow_made w #[] 0 (Nat.le_refl _) (by decide) rfl
  have HO0 := Lib.hid ho0; clear ho0
  go_enter Tryd.func27, Tryd.ntmps27
  go_wp2
  go_loopw [4, 11] (fun s4 s11 wr => UnRel w s s4 s11 wr) (fun _ s11 _ => s.size - (intOf s11).toNat)
  case atStart => exact ⟨0, _, 0, by omega, rfl, rfl, HO0.out, (RowKit.Below.refl _ w).alloc (Nat.le_refl _) _, fun x hx => by simp at hx⟩
  case round =>
    obtain ⟨k, A4, c4, hk, rfl, rfl, OW, BW, ALL⟩ := hrel
    have hul : (unBits 6 armV ((bl s).take k)).length = 6 * k := by rw [unBits_length, List.length_take, HBL.out, Nat.min_eq_left hk]
    have HUL := Lib.hid hul; have HOW := Lib.hid OW; have HBW := Lib.hid BW; have HALL := Lib.hid ALL; clear hul OW BW ALL
    have k0 : (0 : Int) ≤ (k : Int) := by omega
    by_cases hlt : k < s.size
    · have k1 : (k : Int) < (s.size : Int) := by omega
      have hkb : k < (bl s).length := by rw [HBL.out]; exact hlt
      have hlx : ltr (bl s) k = (bl s)[k] := by unfold ltr; rw [List.getD_eq_getElem?_getD, List.getElem?_eq_getElem hkb]; rfl
      have hix : ∀ u, (Instr.index 9 (.string s) (.int .i64 (k : Nat))).run Tryd.prog u = .ok (.int .u8 ((bl s)[k].toNat : Nat)) u := fun u => by
        have := run_index_str u 9 s .i64 k Tryd.underlying9 hlt
        rw [← hlx]; exact this
      have hbad := @un_bad 6 armV (bl s) k hkb
      have htk : (bl s).take (k + 1) = (bl s).take k ++ [(bl s)[k]] := List.take_succ_eq_append_getElem hkb
      have hub : unBits 6 armV ((bl s).take (k + 1)) = unBits 6 armV ((bl s).take k) ++ bitsOf (armV (bl s)[k]) 6 := by rw [htk, unBits_snoc]
      have hva := fun W => value_any (bl s)[k] W
      have hle := armV_le (bl s)[k]
      generalize (bl s)[k] = x at *
      generalize hvx : armV x = v at hva hle hub hbad
      by_cases hv : v < 64
      · have hall2 : ∀ y ∈ (bl s).take (k + 1), armV y < 64 := by
          intro y hy
          rw [htk] at hy
          rcases List.mem_append.1 hy with hy | hy
          · exact HALL.out y hy
          · rw [List.mem_singleton] at hy; rw [hy, hvx]; exact hv
        have hv' : ¬ (63 : Int) < (v : Int) := by omega
        have hpu := rput_any w.heap.size wr (.slice A4 (6 * k) c4) (unBits 6 armV ((bl s).take k)) v 6 HOW.out HBW.out.size (by omega) (by decide) (by rw [HUL.out]; omega)
        rw [← hub] at hpu
        have hul2 : (unBits 6 armV ((bl s).take (k + 1))).length = 6 * (k + 1) := by rw [unBits_length, List.length_take, HBL.out, Nat.min_eq_left (by omega)]
        have HVA := Lib.hid hva; have HPU := Lib.hid hpu; have HALL2 := Lib.hid hall2; have HUL2 := Lib.hid hul2; clear hva hbad hub htk hlx hpu hall2 hvx hul2
        go_wp2_with fail
        refine (HVA.out _).mono ?_
        rintro e w3 ⟨rfl, rfl⟩
        go_wp2_with fail
        refine HPU.out.mono ?_
        rintro e w4 ⟨u', rfl, ho4, hm4, -⟩
        obtain ⟨A5, c5, hv5, -⟩ := own_rd ho4
        have hb4 : RowKit.Below w.heap.size w w4 := HBW.out.trans (hm4.belowB HBW.out.size (fun i hi e => by have := (HOW.out.lt i e).1; omega))
        have hv5' : u' = .slice A5 (6 * (k + 1)) c5 := by rw [hv5, HUL2.out]
        clear hv5
        subst hv5'
        have HO4 := Lib.hid ho4; have HB4 := Lib.hid hb4; clear ho4 hb4 hm4
        go_wp2
        go_roundw
        case rel => exact ⟨k + 1, A5, c5, by omega, by go_num, rfl, HO4.out, HB4.out, HALL2.out⟩
        case measure => simp [intOf]; omega
      · have hr : R = (8, []) := by rw [HR.out]; exact hbad hv
        subst hr
        have hv' : (63 : Int) < (v : Int) := by omega
        have HVA := Lib.hid hva; clear hva hbad hub htk hlx
        go_wp2_with fail
        refine (HVA.out _).mono ?_
        rintro e w3 ⟨rfl, rfl⟩
        go_wp2
        go_ret2
        exact ⟨none, 0, rfl, Rd.nil _ _, HBW.out⟩
    · obtain rfl : k = s.size := by omega
      have htk : (bl s).take s.size = bl s := List.take_of_length_le (by rw [HBL.out]; exact Nat.le_refl _)
      have how := HOW.out
      have hul := HUL.out
      have hall := HALL.out
      rw [htk] at how hul hall
      have hun := arm_un arm_letters (.inr rfl) (bl s) hall
      have hR := HR.out
      unfold unP at hR
      rw [if_pos (by rw [List.all_eq_true]; exact fun x hx => decide_eq_true (hall x hx))] at hR
      generalize unBits 6 armV (bl s) = l at how hul hun hR
      obtain ⟨A6, c6, e6, hr6, -, hc6, hm6⟩ := own_rd how
      have ea : A4 = A6 := by injection e6
      have ec : c4 = c6 := by injection e6
      rw [← ea] at hr6
      rw [← ec] at hc6 hm6
      obtain ⟨N, hN⟩ : ∃ N, N = 6 * s.size := ⟨_, rfl⟩
      rw [← hN] at hul ⊢
      obtain ⟨q, hq⟩ : ∃ q, q = l.length / 8 := ⟨_, rfl⟩
      rw [← hq] at hun hR
      have hq2 : q = N / 8 := by rw [hq, hul]
      obtain ⟨m, hm⟩ : ∃ m, m = 8 * q := ⟨_, rfl⟩
      have hqi : (N : Int) / 8 = (q : Int) := by omega
      have hqt : (N : Int).tdiv 8 = (q : Int) := by rw [Int.tdiv_eq_ediv_of_nonneg (by omega)]; exact hqi
      have hmi : (q : Int) * 8 = (m : Int) := by omega
      have hmN : m ≤ N := by omega
      have hmc : m ≤ c4 := by omega
      have hql : q ≤ 1500 := by omega
      have hrb := fun W (h : Rd W A4 (l.map Value.bool)) => rbytes_any W A4 c4 (l.take m) (by rw [List.length_take]; omega) (by rw [List.map_take]; exact h.take m)
      have hlm : (l.take m).length = m := by rw [List.length_take]; omega
      have hbw : bytesOf (l.take m) = bytesN q l := by rw [hm]; exact bytesOf_whole l q (by omega)
      rw [hlm, hbw] at hrb
      obtain ⟨ys, hys⟩ : ∃ ys, ys = bytesN q l := ⟨_, rfl⟩
      have hyl : ys.length = q := by rw [hys, bytesN_len]
      rw [← hys] at hrb hun hR
      rw [hyl] at hrb
      have HRB := Lib.hid (hrb wr hr6); have HUN := Lib.hid hun; have HRR := Lib.hid hR; have HYL := Lib.hid hyl
      clear htk how hul hall hun hR e6 ea ec hN hq hq2 hm hrb hlm hbw hys hyl hc6 hm6 HUL HOW HALL HR hr6
      go_wp2_with fail
      refine HRB.out.mono ?_
      rintro e w3 ⟨v3, rfl, ho3, hb3⟩
      obtain ⟨A3, c3, hv3, hr3, -⟩ := own_rd ho3
      subst hv3
      have hB3 := HBW.out.trans (hb3.mono HBW.out.size)
      have hra := rarmor_any w3 A3 c3 q ys HYL.out hr3 (by omega)
      have HB3 := Lib.hid hB3; have HR3 := Lib.hid hr3; clear hB3 hb3 ho3 hr3 hqi hqt hmi
      by_cases he : armS 6 armL ys = bl s
      · have hst : (⟨(armS 6 armL ys).toArray⟩ : ByteArray) = s := by rw [he]; exact mk_bl s
        rw [hst] at hra
        have hR := HRR.out
        rw [if_neg (HUN.out.1 he)] at hR
        subst hR
        have HRA := Lib.hid hra; clear hra hst he
        go_wp2_with fail
        refine HRA.out.mono ?_
        rintro e w4 ⟨rfl, hb4⟩
        have HB4 := Lib.hid (HB3.out.trans (hb4.mono HB3.out.size)); have HR4 := Lib.hid (HR3.out.below hb4); clear hb4
        go_wp2
        go_ret2
        exact ⟨A3, c3, (by show _ = Ending.returned (Value.tuple #[.slice A3 ys.length c3, .int .i64 0]); rw [HYL.out]; rfl), HR4.out, HB4.out⟩
      · have hR := HRR.out
        have hbad : 6 ≤ l.length % 8 ∨ natOf (l.drop (8 * q)) ≠ 0 := by
          by_cases h : 6 ≤ l.length % 8 ∨ natOf (l.drop (8 * q)) ≠ 0
          · exact h
          · exact absurd (HUN.out.2 h) he
        rw [if_pos hbad] at hR
        subst hR
        have hne : ¬ (⟨(armS 6 armL ys).toArray⟩ : ByteArray).toList = s.toList := by
          rw [toList_bl, toList_bl]
          exact fun e => he ((bl_mk _).symm.trans e)
        generalize (⟨(armS 6 armL ys).toArray⟩ : ByteArray) = t at hra hne
        have hne2 : (t.toList == s.toList) = false := by rw [beq_eq_false_iff_ne]; exact hne
        have HRA := Lib.hid hra; clear hra he hbad
        go_wp2_with fail
        refine HRA.out.mono ?_
        rintro e w4 ⟨rfl, hb4⟩
        have HB4 := Lib.hid (HB3.out.trans (hb4.mono HB3.out.size)); clear hb4
        go_wp2
        go_ret2
        exact ⟨none, 0, rfl, Rd.nil _ _, HB4.out⟩
end
end Go.Proofs.YtmgjlldccmgpcaaDoor
