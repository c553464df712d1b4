/-
  The bytes of labels: the plain answers' own Put.
-/
import Derived.Test.YtgogpngobdafaaaDoorLp
import Derived.Test.YtgogpngobdafaaaDoorJn
import Derived.Test.YtgogpngobdafaaaDoorPub
import Derived.Test.YtgogpngobdafaaaDoorRr2
import Derived.Deep.RegionHeld3
namespace Go.Proofs.YtgogpngobdafaaaDoor
set_option linter.unusedVariables false
set_option linter.unusedSimpArgs false
open Go.RowKit
section
set_option maxHeartbeats 1600000
set_option maxRecDepth 100000
theorem rsized_any (s : ByteArray) (w : World) (hl : s.size ≤ 1000000) : Calls Tryd.prog 75 #[.string s] w fun e w' => ∃ A c, e = .returned (.slice A (sizedP s).length c) ∧ Rd w' A ((sizedP s).map Bv) ∧ Below w.heap.size w w' := by
  have hp := fun W => rpu_any s.size W (by omega)
  have hl10 := pu_len 10 s.size (by omega)
  obtain ⟨Y, hY⟩ : ∃ Y, Y = sizedP s := ⟨_, rfl⟩
  rw [← hY]
  unfold sizedP at hY
  have hYl : Y.length = (pu s.size).length + s.size := by rw [hY, List.length_append, bl_len]
  generalize pu s.size = p at hp hl10 hY hYl
  have HP := Lib.hid hp; have HY := Lib.hid hY; have HYL := Lib.hid hYl; clear hp hY hYl
  go_enter Tryd.func75, Tryd.ntmps75
  go_wp2_with fail
  refine (HP.out _).mono ?_
  rintro e w1 ⟨v, rfl, hown, hb⟩
  obtain ⟨A1, c1, hv, hr1, -⟩ := own_rd hown
  subst hv
  obtain ⟨c2, W2, hrun, hr2, hs2, hb2⟩ := run_bytes w1 s 30 9 5 Tryd.underlying9 Tryd.underlying30 Tryd.underlying5
  have hr1' := hr1.below hb2
  have hj := join_here W2 [(A1, c1, p), (some ⟨w1.heap.size, 0, none⟩, c2, bl s)] 2 rfl (by
    intro q hq
    simp only [List.mem_cons, List.not_mem_nil, or_false] at hq
    rcases hq with rfl | rfl
    · exact hr1'
    · exact hr2) Y (by rw [HY.out]; simp [joined]) (by rw [HYL.out]; omega) (by decide)
  simp only [List.map_cons, List.map_nil, partV, bl_len] at hj
  have hB2 := hb.trans (hb2.mono hb.size)
  have HJ := Lib.hid hj; have HB2 := Lib.hid hB2
  clear hj hB2 hb2 hb hr1 hr1' hr2 hown hs2
  go_wp2_with fail
  refine HJ.out.mono ?_
  rintro e w3 ⟨A3, c3, rfl, ho3, hb3⟩
  obtain ⟨A4, c4, e4, hr4, -⟩ := own_rd ho3
  injection e4 with e4 _ _
  subst e4
  have HR := Lib.hid hr4; have HB := Lib.hid (HB2.out.trans (hb3.mono HB2.out.size)); clear hr4 hb3 ho3 hrun
  go_wp2
  go_ret
  exact ⟨A3, _, rfl, HR.out, HB.out⟩
/-- What is handed back: bytes, and what was wrong. -/
def BytesRes (w : World) (r : Nat × Bs) (e : Ending) (w' : World) : Prop := ∃ A c, e = .returned (.tuple #[.slice A r.2.length c, .int .i64 (r.1 : Nat)]) ∧ Rd w' A (r.2.map Bv) ∧ Below w.heap.size w w'
theorem rput_bytes_any (A : Option Addr) (c : Nat) (l : List Lb) (w : World) (hx : Rd w A (lcells l)) (hf : Few l) :
    Calls Tryd.prog 42 #[.slice A l.length c] w (BytesRes w (bytesP l)) := by
  have hr := rright_any A c l w hx hf
  obtain ⟨r, hrr⟩ : ∃ r, r = rightP l := ⟨_, rfl⟩
  obtain ⟨R, hR⟩ : ∃ R, R = bytesP l := ⟨_, rfl⟩
  rw [← hR]
  unfold bytesP at hR
  rw [← hrr] at hr hR
  clear hrr
  have HRI := Lib.hid hr; clear hr
  have hfl := hf.1
  have HF := Lib.hid hf; clear hf
  by_cases h0 : r = 0
  · subst h0
    rw [if_neg (by simp)] at hR
    have hp := fun W => rpu_any l.length W (by omega)
    have hl10 := pu_len 10 l.length (by omega)
    have hst : R = (0, pu l.length ++ labBytes (l.take 0) ++ labBytes (l.drop 0)) := by rw [hR]; simp [labBytes]
    have HST := Lib.hid hst; clear hst hR
    have hpl : (pu l.length).length ≤ 10 := by omega
    generalize pu l.length = p at hp HST hpl
    have HP := Lib.hid hp; clear hp hl10
    go_enter Tryd.func42, Tryd.ntmps42
    go_wp2_with fail
    refine HRI.out.mono ?_
    rintro e w1 ⟨rfl, hb1⟩
    have HB1 := Lib.hid hb1; clear hb1
    go_wp2_with fail
    refine (HP.out _).mono ?_
    rintro e w2 ⟨v, rfl, hown, hb2⟩
    obtain ⟨A2, c2, hv2, hr2, -⟩ := own_rd hown
    subst hv2
    have HR2 := Lib.hid hr2; clear hown hr2
    have HB2 := Lib.hid (HB1.out.trans (hb2.mono HB1.out.size)); clear hb2
    go_wp2
    go_loopw [5, 19] (fun s5 s19 wr => ∃ (k : Nat) (acc : Bs) (A5 : Option Addr) (c5 : Nat), s19 = .int .i64 k ∧ s5 = .slice A5 acc.length c5 ∧ k ≤ l.length ∧ acc.length ≤ 10 + k * 20000 ∧ Aside (Rd wr A5 (acc.map Bv)) ∧ Aside (RowKit.Below w.heap.size w wr) ∧ Aside (R = (0, acc ++ labBytes (l.drop k)))) (fun _ s19 _ => l.length - (intOf s19).toNat)
    case atStart => exact ⟨0, p, A2, c2, rfl, rfl, by omega, by omega, HR2.out, HB2.out, (show R = _ from by rw [HST.out]; simp [labBytes])⟩
    case round =>
      obtain ⟨k, acc, A5, c5, rfl, rfl, hk, hal, RD, BW, E⟩ := hrel
      have k0 : (0 : Int) ≤ (k : Int) := by omega
      by_cases hlt : k < l.length
      · have k1 : (k : Int) < (l.length : Int) := by omega
        obtain ⟨b, off, rfl, c0, c1⟩ := lb_at (hx.below BW.out) hlt
        have hfx := HF.out.2 l[k] (List.getElem_mem hlt)
        have hE : R = (0, (acc ++ sizedP l[k].1 ++ sizedP l[k].2) ++ labBytes (l.drop (k + 1))) := by
          rw [E.out]; unfold labBytes; rw [List.drop_eq_getElem_cons hlt, List.flatMap_cons]; simp only [List.append_assoc]
        have HE := Lib.hid hE; clear hE E hx
        generalize l[k] = x at c0 c1 hfx HE
        obtain ⟨x1, x2⟩ := x
        simp only at hfx c0 c1
        obtain ⟨f1, f2⟩ := hfx
        have hrd : Rd (wr.alloc (.cells #[.string x1, .string x2] 68)) A5 (acc.map Bv) := RD.out.alloc _
        have hbw : RowKit.Below w.heap.size w (wr.alloc (.cells #[.string x1, .string x2] 68)) := BW.out.alloc BW.out.size _
        have d0 := cell_blk (heap_alloc_new wr (.cells #[.string x1, .string x2] 68)) 0
        have d1 := cell_blk (heap_alloc_new wr (.cells #[.string x1, .string x2] 68)) 1
        simp only [List.getElem?_toArray, List.getElem?_cons_zero, List.getElem?_cons_succ] at d0 d1
        have hws : wr.heap.size < (wr.alloc (.cells #[.string x1, .string x2] 68)).heap.size := by rw [World.size_alloc]; omega
        have hc1 := fun W => rsized_any x1 W (by omega)
        have hc2 := fun W => rsized_any x2 W (by omega)
        have hs1 : (sizedP x1).length ≤ 10 + x1.size := by unfold sizedP; rw [List.length_append, bl_len]; have := pu_len 10 x1.size (by omega); omega
        have hs2 : (sizedP x2).length ≤ 10 + x2.size := by unfold sizedP; rw [List.length_append, bl_len]; have := pu_len 10 x2.size (by omega); omega
        generalize sizedP x1 = y1 at HE hc1 hs1
        generalize sizedP x2 = y2 at HE hc2 hs2
        obtain ⟨Y, hY⟩ : ∃ Y, Y = acc ++ y1 ++ y2 := ⟨_, rfl⟩
        have hYl : Y.length = acc.length + y1.length + y2.length := by rw [hY, List.length_append, List.length_append]
        have hYb : Y.length ≤ 10 + (k + 1) * 20000 := by rw [hYl]; omega
        have hE2 : R = (0, Y ++ labBytes (l.drop (k + 1))) := by rw [hY]; exact HE.out
        have HYD := Lib.hid hY; have HE2 := Lib.hid hE2; clear hY hE2 hYl
        have HRD := Lib.hid hrd; have HBW := Lib.hid hbw; have HC1 := Lib.hid hc1; have HC2 := Lib.hid hc2
        clear hrd hbw hc1 hc2 HE
        go_wp2_with fail
        generalize wr.alloc (.cells #[.string x1, .string x2] 68) = V at d0 d1 HRD HBW hws ⊢
        obtain ⟨q, hq⟩ : ∃ q, q = wr.heap.size := ⟨_, rfl⟩
        rw [← hq] at d0 d1 hws
        simp only [← hq]
        clear hq c0 c1
        have g0 : V.drew.cell? ⟨q, 0, none⟩ = some (.string x1) := d0
        have g1 : V.drew.cell? ⟨q, 1, none⟩ = some (.string x2) := d1
        have hwd : q < V.drew.heap.size := hws
        have HRE := Lib.hid (show Rd V.drew A5 (acc.map Bv) from HRD.out)
        have HBE := Lib.hid HBW.out.drew
        have HC4 := Lib.hid (HC1.out V.drew)
        go_region_held3 (fun w' => w'.cell? ⟨q, 0, none⟩ = some (.string x1) ∧ w'.cell? ⟨q, 1, none⟩ = some (.string x2)) (first | exact ⟨d0, d1⟩ | exact ⟨g0, g1⟩ | exact ⟨k0, k1⟩ | exact ⟨m0, m1⟩ | exact ⟨Lib.cell?_alloc_some _ m0, Lib.cell?_alloc_some _ m1⟩ | exact ⟨p0, p1⟩) (first
          | (go_at_call 75; (with_reducible refine HC4.out.mono ?_); rintro e w5 ⟨A6, c6, rfl, hr6, hb6⟩; have hV5 := hb6.size; have k0 := (hb6.cell (p := ⟨q, 0, none⟩) hwd).trans g0; have k1 := (hb6.cell (p := ⟨q, 1, none⟩) hwd).trans g1; have HR6 := Lib.hid hr6; have HRA := Lib.hid (HRE.out.below hb6); have HB5 := Lib.hid (HBE.out.trans (hb6.mono HBE.out.size)); have HC3 := Lib.hid (HC2.out w5); have hq5 : q < w5.heap.size := Nat.lt_of_lt_of_le hwd hV5; clear hr6 hb6)
          | (go_at_call 75; (with_reducible refine HC3.out.mono ?_); rintro e w6 ⟨A9, c9, rfl, hr9, hb9⟩; have hV6 := hb9.size; have m0 := (hb9.cell (p := ⟨q, 0, none⟩) hq5).trans k0; have m1 := (hb9.cell (p := ⟨q, 1, none⟩) hq5).trans k1; have HJ := Lib.hid (join_three w6 A5 A6 A9 c5 c6 c9 acc y1 y2 Y (HRA.out.below hb9) (HR6.out.below hb9) hr9 HYD.out (by omega)); have HB6 := Lib.hid (HB5.out.trans (hb9.mono HB5.out.size)); have hq6 : q < w6.heap.size := Nat.lt_of_lt_of_le hq5 hV6; clear hr9 hb9)
          | (go_at_call 25; (with_reducible refine HJ.out.mono ?_); rintro e w8 ⟨A11, c11, rfl, ho11, hb11⟩; have p0 := (hb11.cell (p := ⟨q, 0, none⟩) hq6).trans m0; have p1 := (hb11.cell (p := ⟨q, 1, none⟩) hq6).trans m1; have HO11 := Lib.hid ho11; have HB8 := Lib.hid (HB6.out.trans (hb11.mono HB6.out.size)); clear ho11 hb11))
        all_goals
          obtain ⟨A12, c12, e12, hr12, -⟩ := own_rd HO11.out
          injection e12 with e12 _ _
          subst e12
          have HR12 := Lib.hid hr12; clear hr12
          go_wp2
          go_roundw
          case rel => exact ⟨k + 1, Y, A11, _, by go_num, rfl, by omega, by omega, (show Aside _ from HR12.out), (show Aside _ from HB8.out), (show Aside _ from HE2.out)⟩
          case measure => simp [intOf]; omega
      · obtain rfl : k = l.length := by omega
        have hr : R = (0, acc) := by rw [E.out, List.drop_length]; simp [labBytes]
        subst hr
        go_wp2
        go_ret2
        exact ⟨A5, c5, rfl, RD.out, BW.out⟩
  · rw [if_pos h0] at hR
    subst hR
    have g0 : ((r : Int) != 0) = true := by rw [bne_iff_ne]; omega
    go_enter Tryd.func42, Tryd.ntmps42
    go_wp2_with fail
    refine HRI.out.mono ?_
    rintro e w1 ⟨rfl, hb1⟩
    go_wp2
    go_ret2
    exact ⟨none, 0, rfl, Rd.nil _ _, hb1⟩
end
end Go.Proofs.YtgogpngobdafaaaDoor
