/-
  The bytes of labels: the program's Put.
-/
import Derived.Test.YtgogpngobdafaaaDoorPua
import Derived.Test.YtgogpngobdafaaaDoorRg
namespace Go.Proofs.YtgogpngobdafaaaDoor
set_option linter.unusedVariables false
set_option linter.unusedSimpArgs false
open Go.RowKit
def sizedP (s : ByteArray) : Bs := pu s.size ++ bl s
def labBytes (l : List Lb) : Bs := l.flatMap fun x => sizedP x.1 ++ sizedP x.2
/-- The bytes of labels. -/
def bytesP (l : List Lb) : Nat × Bs := if rightP l ≠ 0 then (rightP l, []) else (0, pu l.length ++ labBytes l)
section
set_option maxHeartbeats 1600000
set_option maxRecDepth 100000
theorem sized_any (s : ByteArray) (w : World) (hl : s.size ≤ 1000000) : Calls Tryd.prog 74 #[.string s] w fun e w' => ∃ A c, e = .returned (.slice A (sizedP s).length c) ∧
    w'.ownsRow w.heap.size 5 1 (.slice A (sizedP s).length c) (sizedP s).length ((sizedP s).map Bv) ∧ Below w.heap.size w w' := by
  obtain ⟨i0, hi, hz0, hz1, hz2⟩ := info_parts infoU8
  have hp := fun W => pu_any s.size W (by omega)
  have hl10 := pu_len 10 s.size (by omega)
  have hlen : (sizedP s).length = (pu s.size).length + s.size := by unfold sizedP; rw [List.length_append, bl_len]
  have hmap : (sizedP s).map Bv = (pu s.size).map Bv ++ Lib.strCells s := by unfold sizedP; rw [List.map_append]; rfl
  rw [hlen, hmap]
  generalize pu s.size = p at hp hl10
  have HP := Lib.hid hp; clear hp hlen hmap
  go_enter Tryd.func74, Tryd.ntmps74
  go_wp2_with fail
  refine (HP.out _).mono ?_
  rintro e w1 ⟨v, rfl, hown, hb⟩
  have hs1 := hb.size
  go_wp2_with (first | (at_builtin; (refine Lib.wpList_append_own_string _ rfl _ _ 30 9 rfl w.heap.size 5 i0 Tryd.underlying30 Tryd.underlying9 hi hz0 hz1 hz2 _ p.length (p.map Bv) rfl hown s rfl (by unfold maxLen; omega) (by omega) (by omega) ?_; intro v' w2 hown' hgrow hg')) | fail)
  go_ret
  obtain ⟨A2, c2, e2, -⟩ := own_rd hown'
  subst e2
  exact ⟨A2, c2, rfl, hown', hb.grown hgrow hs1 (fun k h => (hown.lt k h).1)⟩
theorem put_bytes_any (A : Option Addr) (c : Nat) (l : List Lb) (w : World) (hT : Tabs w) (hx : Rd w A (lcells l)) (hf : Few l) :
    Calls Tryd.prog 40 #[.slice A l.length c] w fun e w' => ∃ A' c', e = .returned (.tuple #[.slice A' (bytesP l).2.length c', .int .i64 ((bytesP l).1 : Nat)]) ∧
      w'.ownsRow w.heap.size 5 1 (.slice A' (bytesP l).2.length c') (bytesP l).2.length ((bytesP l).2.map Bv) ∧ Below w.heap.size w w' := by
  have hr := right_any A c l w hT hx hf
  obtain ⟨r, hrr⟩ : ∃ r, r = rightP l := ⟨_, rfl⟩
  obtain ⟨R, hR⟩ : ∃ R, R = bytesP l := ⟨_, rfl⟩
  rw [← hR]
  unfold bytesP at hR
  rw [← hrr] at hr hR
  clear hrr
  have HRI := Lib.hid hr; clear hr
  have hfl := hf.1
  have HF := Lib.hid hf; clear hf
  by_cases h0 : r = 0
  · subst h0
    rw [if_neg (by simp)] at hR
    have hp := fun W => pu_any l.length W (by omega)
    have hl10 := pu_len 10 l.length (by omega)
    have hst : R = (0, pu l.length ++ labBytes (l.take 0) ++ labBytes (l.drop 0)) := by rw [hR]; simp [labBytes]
    have HST := Lib.hid hst; clear hst hR
    have hpl : (pu l.length).length ≤ 10 := by omega
    generalize pu l.length = p at hp HST hpl
    have HP := Lib.hid hp; clear hp hl10
    go_enter Tryd.func40, Tryd.ntmps40
    go_wp2_with fail
    refine HRI.out.mono ?_
    rintro e w1 ⟨rfl, hb1⟩
    have HB1 := Lib.hid hb1; clear hb1
    go_wp2_with fail
    refine (HP.out _).mono ?_
    rintro e w2 ⟨v, rfl, hown, hb2⟩
    have HO2 := Lib.hid (hown.lower HB1.out.size); clear hown
    have HB2 := Lib.hid (HB1.out.trans (hb2.mono HB1.out.size)); clear hb2
    go_wp2
    go_loopw [5, 19] (fun s5 s19 wr => ∃ (k : Nat) (acc : Bs), s19 = .int .i64 k ∧ k ≤ l.length ∧ acc.length ≤ 10 + k * 20000 ∧ Aside (wr.ownsRow w.heap.size 5 1 s5 acc.length (acc.map Bv)) ∧ Aside (RowKit.Below w.heap.size w wr) ∧ Aside (R = (0, acc ++ labBytes (l.drop k)))) (fun _ s19 _ => l.length - (intOf s19).toNat)
    case atStart => exact ⟨0, p, rfl, by omega, by omega, HO2.out, HB2.out, (show R = _ from by rw [HST.out]; simp [labBytes])⟩
    case round =>
      obtain ⟨k, acc, rfl, hk, hal, OW, BW, E⟩ := hrel
      have k0 : (0 : Int) ≤ (k : Int) := by omega
      obtain ⟨A5, c5, hv5, hrd5, -⟩ := own_rd OW.out
      subst hv5
      clear hrd5
      by_cases hlt : k < l.length
      · have k1 : (k : Int) < (l.length : Int) := by omega
        obtain ⟨b, off, rfl, c0, c1⟩ := lb_at (hx.below BW.out) hlt
        have hfx := HF.out.2 l[k] (List.getElem_mem hlt)
        have hE : R = (0, (acc ++ sizedP l[k].1 ++ sizedP l[k].2) ++ labBytes (l.drop (k + 1))) := by
          rw [E.out]; unfold labBytes; rw [List.drop_eq_getElem_cons hlt, List.flatMap_cons]; simp only [List.append_assoc]
        have HE := Lib.hid hE; clear hE E hx
        generalize l[k] = x at c0 c1 hfx HE
        obtain ⟨x1, x2⟩ := x
        simp only at hfx c0 c1
        obtain ⟨f1, f2⟩ := hfx
        have ho : (wr.alloc (.cells #[.string x1, .string x2] 68)).ownsRow w.heap.size 5 1 (.slice A5 acc.length c5) acc.length (acc.map Bv) := OW.out.alloc _
        have hbw : RowKit.Below w.heap.size w (wr.alloc (.cells #[.string x1, .string x2] 68)) := BW.out.alloc BW.out.size _
        have hbx := heap_alloc_new wr (.cells #[.string x1, .string x2] 68)
        have hws : (wr.alloc (.cells #[.string x1, .string x2] 68)).heap.size = wr.heap.size + 1 := World.size_alloc _ _
        have hc1 := sized_any x1 (wr.alloc (.cells #[.string x1, .string x2] 68)) (by omega)
        have hc2 := fun W => sized_any x2 W (by omega)
        have hs1 : (sizedP x1).length ≤ 10 + x1.size := by unfold sizedP; rw [List.length_append, bl_len]; have := pu_len 10 x1.size (by omega); omega
        have hs2 : (sizedP x2).length ≤ 10 + x2.size := by unfold sizedP; rw [List.length_append, bl_len]; have := pu_len 10 x2.size (by omega); omega
        generalize sizedP x1 = y1 at HE hc1 hs1
        generalize sizedP x2 = y2 at HE hc2 hs2
        have HO := Lib.hid ho; have HBW := Lib.hid hbw; have HBX := Lib.hid hbx; have HWS := Lib.hid hws; have HC1 := Lib.hid hc1; have HC2 := Lib.hid hc2
        clear ho hbw hbx hws hc1 hc2
        obtain ⟨i0, hi, hz0, hz1, hz2⟩ := info_parts infoU8
        go_wp2_with fail
        refine HC1.out.mono ?_
        rintro e w3 ⟨A7, c7, rfl, ho7, hb7⟩
        have hne : w.heap.size ≤ wr.heap.size := BW.out.size
        have hoA := own_moved HO.out (w' := w3) (fun g hg => hb7.block g (HO.out.lt g hg).2)
        have hbx3 := (hb7.block wr.heap.size (by rw [HWS.out]; omega)).trans HBX.out
        have hB7 := HBW.out.trans (hb7.mono HBW.out.size)
        obtain ⟨A7', c7', e7, hrd7, -⟩ := own_rd ho7
        injection e7 with e7 _ _
        subst e7
        have h3s := hB7.size
        have HOA := Lib.hid hoA; have HBX3 := Lib.hid hbx3; have HB7 := Lib.hid hB7; have HRD7 := Lib.hid hrd7
        have hne4 := own_blk HOA.out HBX3.out (by decide)
        have HNE4 := Lib.hid hne4; clear hne4
        clear hoA hbx3 hB7 hrd7 ho7 hb7
        obtain ⟨acc4, h4⟩ : ∃ a, a = acc ++ y1 := ⟨_, rfl⟩
        have key : ∀ v4 w4, World.ownsRow w4 w.heap.size 5 1 v4 (acc.length + (y1.map Bv).length) (acc.map Bv ++ y1.map Bv) → w3.grownBy w4 (Value.slice A5 acc.length c5).ownBlock →
            ∃ A8 c8, v4 = .slice A8 acc4.length c8 ∧ Aside (World.ownsRow w4 w.heap.size 5 1 (.slice A8 acc4.length c8) acc4.length (acc4.map Bv)) ∧ Aside (RowKit.Below w.heap.size w w4) ∧ w4.cell? ⟨wr.heap.size, 1, none⟩ = some (.string x2) := fun v4 w4 own4 grow4 => by
          have hbx4 := (grow4.block wr.heap.size (blk_lt HBX3.out) (Ne.symm HNE4.out)).trans HBX3.out
          have hB4 : RowKit.Below w.heap.size w w4 := HB7.out.grown grow4 h3s (fun k h => (HOA.out.lt k h).1)
          have d1 := cell_blk hbx4 1
          simp only [List.getElem?_toArray, List.getElem?_cons_zero, List.getElem?_cons_succ] at d1
          have hHO4 : w4.ownsRow w.heap.size 5 1 v4 acc4.length (acc4.map Bv) := by
            rw [h4, List.length_append, List.map_append]; rw [List.length_map] at own4; exact own4
          obtain ⟨A8, c8, hv8, -⟩ := own_rd hHO4
          subst hv8
          exact ⟨A8, c8, rfl, hHO4, hB4, d1⟩
        have KEY := Lib.hid key; clear key
        have hal4 : acc4.length ≤ 6020 + 10 + k * 20000 := by rw [h4, List.length_append]; omega
        have hE2 : R = (0, acc4 ++ y2 ++ labBytes (l.drop (k + 1))) := by rw [h4]; exact HE.out
        have HE2 := Lib.hid hE2; clear hE2 h4
        go_wp2_with (first
          | (at_builtin; go_must (refine wpList_append_rd rfl _ _ 30 rfl w.heap.size 5 i0 (.int .u8 0) 1 Tryd.underlying30 hi hz0 hz1 hz2 rfl _ acc.length (acc.map Bv) rfl HOA.out A7 c7' (y1.map Bv) (by rw [List.length_map]; rfl) HRD7.out (by intro u hu; obtain ⟨z, _, rfl⟩ := List.mem_map.1 hu; rfl) (by rw [List.length_map]; unfold maxLen; omega) (by rw [List.length_map]; omega) (by omega) ?_; intro v4 w4 own4 grow4; obtain ⟨A8, c8, hv8, HO4, HB4, d1⟩ := KEY.out v4 w4 own4 grow4; subst hv8; clear own4 grow4))
          | fail)
        go_wp2_with fail
        refine (HC2.out _).mono ?_
        rintro e w5 ⟨A9, c9, rfl, ho9, hb9⟩
        have hoB := own_moved HO4.out (w' := w5) (fun g hg => hb9.block g (HO4.out.lt g hg).2)
        have hB9 := HB4.out.trans (hb9.mono HB4.out.size)
        obtain ⟨A9', c9', e9, hrd9, -⟩ := own_rd ho9
        injection e9 with e9 _ _
        subst e9
        have h5s := hB9.size
        have HOB := Lib.hid hoB; have HB9 := Lib.hid hB9; have HRD9 := Lib.hid hrd9
        clear hoB hB9 hrd9 ho9 hb9
        go_wp2_with (first
          | (at_builtin; go_must (refine wpList_append_rd rfl _ _ 30 rfl w.heap.size 5 i0 (.int .u8 0) 1 Tryd.underlying30 hi hz0 hz1 hz2 rfl _ acc4.length (acc4.map Bv) rfl HOB.out A9 c9' (y2.map Bv) (by rw [List.length_map]; rfl) HRD9.out (by intro u hu; obtain ⟨z, _, rfl⟩ := List.mem_map.1 hu; rfl) (by rw [List.length_map]; unfold maxLen; omega) (by rw [List.length_map]; omega) (by omega) ?_; intro v6 w6 own6 grow6))
          | fail)
        have hB6 : RowKit.Below w.heap.size w w6 := HB9.out.grown grow6 h5s (fun k h => (HOB.out.lt k h).1)
        have hHO6 : w6.ownsRow w.heap.size 5 1 v6 (acc4 ++ y2).length ((acc4 ++ y2).map Bv) := by
          rw [List.length_append, List.map_append]; rw [List.length_map] at own6; exact own6
        have HO6 := Lib.hid hHO6; have HB6 := Lib.hid hB6; clear own6 grow6 hHO6 hB6
        go_wp2
        go_roundw
        case rel => exact ⟨k + 1, acc4 ++ y2, by go_num, by omega, by rw [List.length_append]; omega, (show Aside _ from HO6.out), (show Aside _ from HB6.out), (show Aside _ from HE2.out)⟩
        case measure => simp [intOf]; omega
      · obtain rfl : k = l.length := by omega
        have hr : R = (0, acc) := by rw [E.out, List.drop_length]; simp [labBytes]
        subst hr
        go_wp2
        go_ret2
        exact ⟨A5, c5, rfl, OW.out, BW.out⟩
  · rw [if_pos h0] at hR
    subst hR
    have g0 : ((r : Int) != 0) = true := by rw [bne_iff_ne]; omega
    go_enter Tryd.func40, Tryd.ntmps40
    go_wp2_with fail
    refine HRI.out.mono ?_
    rintro e w1 ⟨rfl, hb1⟩
    go_wp2
    go_ret2
    exact ⟨none, 0, rfl, World.ownsRow_nil _ _ _ _, hb1⟩
end
end Go.Proofs.YtgogpngobdafaaaDoor
