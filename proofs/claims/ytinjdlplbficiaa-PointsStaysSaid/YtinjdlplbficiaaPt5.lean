/-
  A point that is put to a list: the program's own.
-/
import Derived.Deep.RegionHeld3
import Derived.Test.YtinjdlplbficiaaPt4
namespace Go.Proofs.Ytinjdlplbficiaa
set_option linter.unusedVariables false
set_option linter.unusedSimpArgs false
open Go.RowKit
def PutOut (w : World) (r : List Pt × Int × Int) (e : Ending) (w' : World) : Prop := ∃ A' c', e = .returned (.tuple #[.slice A' r.1.length c', .int .i64 r.2.1, .int .i64 r.2.2]) ∧
  w'.ownsRow w.heap.size 25 3 (.slice A' r.1.length c') r.1.length (pcells r.1) ∧ RowKit.Below w.heap.size w w'
theorem undrewB {B : Nat} {w w' : World} (m : RowKit.Below B w.drew w') : RowKit.Below B w w' := ⟨m.os, m.tape, m.output, m.size, m.block⟩
theorem undrewQ {w w' : World} (m : RowKit.Below w.drew.heap.size w.drew w') : RowKit.Below w.heap.size w w' := ⟨m.os, m.tape, m.output, m.size, m.block⟩
theorem at_parts {l : List Pt} {p : Pt} (h : isAt l p.1 = true) : ∃ q, l[findP l p.1]? = some q ∧ q.1 = p.1 ∧ mergeL l [p] = l.take (findP l p.1) ++ cntP p q :: l.drop (findP l p.1 + 1) ∧ l.getD (findP l p.1) p = q := by
  obtain ⟨hn, e⟩ := with_at h
  obtain ⟨_, e2⟩ := isAt_some h
  exact ⟨l[findP l p.1], List.getElem?_eq_getElem hn, e2, e, by rw [List.getD_eq_getElem?_getD, List.getElem?_eq_getElem hn]; rfl⟩
theorem pt_at' {w : World} {A : Option Addr} {l : List Pt} (h : Rd w A (pcells l)) {k : Nat} {q : Pt} (hk : l[k]? = some q) :
    ∃ b off, A = some ⟨b, off, none⟩ ∧ w.cell? ⟨b, off + k * 3, none⟩ = some (.int .i64 q.1) ∧ w.cell? ⟨b, off + k * 3 + 1, none⟩ = some (.int .u64 q.2.1) ∧ w.cell? ⟨b, off + k * 3 + 2, none⟩ = some (.int .u64 q.2.2) := by
  obtain ⟨hl, rfl⟩ := List.getElem?_eq_some_iff.1 hk
  exact pt_at h hl
section
set_option maxHeartbeats 1600000
set_option maxRecDepth 100000
theorem put_any (A : Option Addr) (c : Nat) (l : List Pt) (p : Pt) (w : World) (hx : Rd w A (pcells l)) (hc : l.length ≤ c) (hl : l.length ≤ 1000) :
    Calls Try.prog 11 #[.slice A l.length c, aggPt p] w (PutOut w (putP l p)) := by
  obtain ⟨R, hR⟩ : ∃ R, R = putP l p := ⟨_, rfl⟩
  rw [← hR]
  obtain ⟨W, hW⟩ : ∃ W, W = w.alloc (.cells (boxPt p) 25) := ⟨_, rfl⟩
  have hbw : RowKit.Below w.heap.size w W := by rw [hW]; exact (RowKit.Below.refl _ w).alloc (Nat.le_refl _) _
  have hbx : PBox W w.heap.size p := by rw [hW]; exact PBox.new w p
  have hxW := hx.below hbw
  have hsW := hbw.size
  obtain ⟨b0, b1, b2⟩ := hbx.cells
  have HX := Lib.hid hxW; have HBW := Lib.hid hbw; have HBX := Lib.hid hbx; have HR := Lib.hid hR
  clear hx hxW hbw hbx hR
  -- l as it is
  have HCL := Lib.hid (fun (W' : World) (hb : RowKit.Below W.heap.size W W') => clone_any A c l W' (HX.out.below hb) (by omega))
  unfold putP at HR
  obtain ⟨p1, p2, p3⟩ := p
  unfold boxPt at hW
  unfold aggPt
  simp only at hW b0 b1 b2 HR ⊢
  have HW := Lib.hid hW; clear hW
  by_cases hz : p3 = 0
  · rw [if_pos (.inl hz)] at HR
    subst hz
    go_enter Try.func11, Try.ntmps11
    go_wp2_with fail
    rw [← HW.out]
    go_wp2_with (first | (go_at_call 39; refine (HCL.out W (RowKit.Below.refl _ _)).mono ?_; rintro e w1 ⟨A1, c1, rfl, ho1, hb1⟩) | fail)
    go_ret3
    exact ⟨A1, c1, by rw [HR.out]; rfl, by rw [HR.out]; exact ho1.lower hsW, HBW.out.trans (hb1.mono hsW)⟩
  · have hzb : (p3 == (0 : Int)) = false := by simp [hz]
    have hrc := right_any A c l W HX.out (by omega)
    cases hrr : rightB l with
    | false =>
      rw [hrr] at hrc
      rw [if_pos (.inr hrr)] at HR
      have HRC := Lib.hid hrc; clear hrc hrr
      go_enter Try.func11, Try.ntmps11
      go_wp2_with fail
      rw [← HW.out]
      go_wp2_with (first
        | (go_at_call 13; refine HRC.out.mono ?_; rintro e w0 ⟨rfl, hb0⟩)
        | (go_at_call 39; refine (HCL.out w0 hb0).mono ?_; rintro e w1 ⟨A1, c1, rfl, ho1, hb1⟩)
        | fail)
      go_ret3
      have hs0 := hb0.size
      exact ⟨A1, c1, by rw [HR.out]; rfl, by rw [HR.out]; exact ho1.lower (Nat.le_trans hsW hs0), (HBW.out.trans (hb0.mono hsW)).trans (hb1.mono (Nat.le_trans hsW hs0))⟩
    | true =>
      rw [hrr] at hrc
      have hsrt := ((right_iff l).1 hrr).2.2
      rw [if_neg (by rw [hrr]; simp [hz])] at HR
      have HRC := Lib.hid hrc; have HS := Lib.hid hsrt; clear hrc hrr hsrt
      have HFI := Lib.hid (fun (W' : World) (hb : RowKit.Below W.heap.size W W') => find_any A c l p1 W' (HX.out.below hb) (by omega))
      have hlen : ¬ ((l.length : Int) = 65536) := by omega
      have hlenb : ((l.length : Int) == 65536) = false := by simp [hlen]
      cases hat : isAt l p1 with
      | false =>
        rw [if_neg (by simp [hat]), if_neg (by omega)] at HR
        obtain ⟨k, hk⟩ : ∃ k, k = findP l p1 := ⟨_, rfl⟩
        have hkl : k ≤ l.length := by rw [hk]; exact find_le l p1
        have hwn := with_new (l := l) (p := (p1, p2, p3)) hat
        rw [← hk] at hwn
        have HWI := Lib.hid (fun (W' : World) (hb : RowKit.Below W.heap.size W W') => with_any A c l (p1, p2, p3) k k W' (HX.out.below hb) hc hkl hkl (by omega))
        rw [← hwn] at HWI
        have HAT := Lib.hid hat; have HK := Lib.hid hk
        clear hat hk hwn
        go_enter Try.func11, Try.ntmps11
        go_wp2_with fail
        rw [← HW.out]
        go_wp2_with (first
          | (go_at_call 13; refine HRC.out.mono ?_; rintro e w0 ⟨rfl, hb0⟩; obtain ⟨d0, d1, d2⟩ := (HBX.out.below hb0).cells)
          | (go_at_call 15; refine (HFI.out w0 hb0).mono ?_; rintro e w1 ⟨⟨n, b, rfl, hn, hs⟩, hb1⟩; obtain ⟨hs1, hs2⟩ := hs HS.out; rw [← HK.out] at hs1; rw [HAT.out] at hs2; subst hs1; subst hs2; have hb2 := hb0.trans (hb1.mono hb0.size); obtain ⟨e0, e1, e2⟩ := (HBX.out.below hb2).cells)
          | (go_at_call 41; refine (HWI.out w1 hb2).mono ?_; rintro e w3 ⟨A1, c1, rfl, ho1, hb3⟩)
          | fail)
        go_ret3
        have hs2 := hb2.size
        exact ⟨A1, c1, by rw [HR.out]; rfl, by rw [HR.out]; exact ho1.lower (Nat.le_trans hsW hs2), (HBW.out.trans (hb2.mono hsW)).trans (hb3.mono (Nat.le_trans hsW hs2))⟩
      | true =>
        rw [if_pos hat] at HR
        obtain ⟨k, hk⟩ : ∃ k, k = findP l p1 := ⟨_, rfl⟩
        obtain ⟨q, hq, hqt, hwn, hgd⟩ := at_parts (p := (p1, p2, p3)) hat
        simp only at hq hqt hwn hgd
        have hr := HR.out
        rw [hgd] at hr
        rw [← hk] at hq hwn
        have hkl0 : k < l.length := (List.getElem?_eq_some_iff.1 hq).1
        have hkl : k ≤ l.length := by omega
        have HAT := Lib.hid hat; have HK := Lib.hid hk; have HKL := Lib.hid hkl0
        obtain ⟨kp, hkp⟩ : ∃ kp, kp = cntP (p1, p2, p3) q := ⟨_, rfl⟩
        rw [← hkp] at hwn
        have hcode : codeP (p1, p2, p3) q = if p2 = q.2.1 then 2 else if kp = (p1, p2, p3) then 3 else 4 := by
          unfold codeP
          simp only
          by_cases e : p2 = q.2.1
          · rw [if_pos e, if_pos e]
          · rw [if_neg e, if_neg e, hkp]
            simp only [code_kept (p := (p1, p2, p3)) e hqt.symm]
        have HWI := Lib.hid (fun (W' : World) (hb : RowKit.Below W.heap.size W W') => with_any A c l kp k (k + 1) W' (HX.out.below hb) hc hkl (by omega) (by omega))
        rw [← hwn, show ((k + 1 : Nat) : Int) = (k : Int) + 1 by omega] at HWI
        have k2 : IntKind.i64.wrap ((k : Int) + 1) = (k : Int) + 1 := IntWalk.i64_in _ (by omega)
        rw [hcode] at hr
        have HQ := Lib.hid hq
        have HRR := Lib.hid hr
        have HCO := Lib.hid (fun W' => count_any (p1, p2, p3) q W')
        rw [← hkp] at HCO
        have HBE := Lib.hid (fun W' => became_any (p1, p2, p3) q kp W')
        clear hat hk hwn hr hcode hgd hkl0 hq hkp hqt HR
        obtain ⟨q1, q2, q3⟩ := q
        obtain ⟨r1, r2, r3⟩ := kp
        unfold aggPt at HCO HBE HWI
        simp only at HCO HBE HRR HWI
        obtain ⟨code, hcode⟩ : ∃ code : Int, code = if p2 = q2 then 2 else if (r1, r2, r3) = (p1, p2, p3) then 3 else 4 := ⟨_, rfl⟩
        rw [← hcode] at HBE HRR
        clear hcode
        have k0 : (0 : Int) ≤ (k : Int) := by omega
        have k1 : (k : Int) < (l.length : Int) := by have := HKL.out; omega
        go_enter Try.func11, Try.ntmps11
        go_wp2_with fail
        rw [← HW.out]
        go_wp2_with (first
          | (go_at_call 13; refine HRC.out.mono ?_; rintro e w0 ⟨rfl, hb0⟩; obtain ⟨d0, d1, d2⟩ := (HBX.out.below hb0).cells)
          | (go_at_call 15; refine (HFI.out w0 hb0).mono ?_; rintro e w1 ⟨⟨n, b, rfl, hn, hs⟩, hb1⟩; obtain ⟨hs1, hs2⟩ := hs HS.out; rw [← HK.out] at hs1; rw [HAT.out] at hs2; subst hs1; subst hs2; have hb2 := hb0.trans (hb1.mono hb0.size); obtain ⟨e0, e1, e2⟩ := (HBX.out.below hb2).cells)
          | fail)
        obtain ⟨b, off, rfl, c0, c1, c2⟩ := pt_at' (HX.out.below hb2) HQ.out
        simp only at c0 c1 c2
        have HB2 := Lib.hid hb2
        have hs2 := hb2.size
        clear hb0 hb1 hb2 d0 d1 d2 hs2
        obtain ⟨c3, c4, c5⟩ := pt_cells ((HX.out.below HB2.out).alloc (.cells #[.int .i64 0, .int .u64 0, .int .u64 0] 25)) HQ.out
        obtain ⟨e3, e4, e5⟩ := ((HBX.out.below HB2.out).alloc (.cells #[.int .i64 0, .int .u64 0, .int .u64 0] 25)).cells
        simp only at c3 c4 c5 e3 e4 e5
        have HXL := Lib.hid (HX.out.below HB2.out); have HPL := Lib.hid (HBX.out.below HB2.out)
        have hpw : w.heap.size < W.heap.size := blk_lt HBX.out
        go_region_law (first
          | (go_simp; go_at_call 40; (with_reducible refine (HCO.out _).mono ?_); rintro e w5 ⟨rfl, hb5⟩
             have hm5 : Mv (fun _ => False) w1 w5 := Mv.trans (T := fun _ => False) (by repeat (first | exact Mv.refl _ w1 | refine Mv.alloc ?_ _ | refine Mv.drew ?_)) (Mv.of_below hb5 _) (fun _ _ f => f)
             have hz5 : PBox w5 w1.heap.size (0, 0, 0) := PBox.below (by first | exact heap_alloc_new _ _ | exact heap_alloc_new w1.drew _ | exact heap_alloc_new w1 _) hb5
             obtain ⟨z0, z1, z2⟩ := hz5.cells; have f0 := free_blk hz5 0; have f1 := free_blk hz5 1; have f2 := free_blk hz5 2
             have HZ5 := Lib.hid hz5; clear hz5
             have HM5 := Lib.hid hm5; have hs5 := hm5.size
             clear hb5 hm5)
          | (go_simp; go_at_call 40; (with_reducible refine (HCO.out _).mono ?_); rintro e w5 ⟨rfl, hb5⟩
             have hm5 : Mv (fun _ => False) w1 w5 := Mv.trans (T := fun _ => False) (by repeat (first | exact Mv.refl _ w1 | refine Mv.alloc ?_ _ | refine Mv.drew ?_)) (Mv.of_below hb5 _) (fun _ _ f => f)
             have HM5 := Lib.hid hm5; have hs5 := hm5.size
             clear hb5 hm5)
          | fail)
        all_goals
          first
            | (refine withW (fun w6 => PBox w6 w1.heap.size (r1, r2, r3) ∧ Mv (fun _ => False) w1 w6) ⟨PBox.set3 HZ5.out (r1, r2, r3), ((HM5.out.setCell (fun h => by exact absurd h (Nat.lt_irrefl _)) _).setCell (fun h => by exact absurd h (Nat.lt_irrefl _)) _).setCell (fun h => by exact absurd h (Nat.lt_irrefl _)) _⟩ ?_
               rintro w6 ⟨hg6, hm6⟩
               obtain ⟨g, hg⟩ : ∃ g, g = w1.heap.size := ⟨_, rfl⟩
               have hgw : w1.heap.size ≤ g := by omega
               rw [← hg] at hg6 ⊢)
            | (refine withW (fun w6 => PBox w6 w5.heap.size (r1, r2, r3) ∧ Mv (fun _ => False) w1 w6) ⟨heap_alloc_new w5 _, HM5.out.alloc _⟩ ?_
               rintro w6 ⟨hg6, hm6⟩
               obtain ⟨g, hg⟩ : ∃ g, g = w5.heap.size := ⟨_, rfl⟩
               have hgw : w1.heap.size ≤ g := by omega
               rw [← hg] at hg6 ⊢)
        all_goals
          clear hg hgw
          have HB6 := Lib.hid (HB2.out.trans (hm6.below.mono HB2.out.size))
          have HG6 := Lib.hid hg6
          have HP6 := Lib.hid (PBox.below HPL.out hm6.below)
          have HX6 := Lib.hid (HXL.out.below hm6.below)
          clear c0 c1 c2 c3 c4 c5 e0 e1 e2 e3 e4 e5
          have HS6 := Lib.hid (show ∀ W', RowKit.Below w6.heap.size w6 W' → W'.cell? ⟨b, off + n * 3, none⟩ = some (.int .i64 q1) ∧ W'.cell? ⟨b, off + n * 3 + 1, none⟩ = some (.int .u64 q2) ∧ W'.cell? ⟨b, off + n * 3 + 2, none⟩ = some (.int .u64 q3) ∧ W'.cell? ⟨w.heap.size, 0, none⟩ = some (.int .i64 p1) ∧ W'.cell? ⟨w.heap.size, 1, none⟩ = some (.int .u64 p2) ∧ W'.cell? ⟨w.heap.size, 2, none⟩ = some (.int .u64 p3) ∧ W'.cell? ⟨g, 0, none⟩ = some (.int .i64 r1) ∧ W'.cell? ⟨g, 1, none⟩ = some (.int .u64 r2) ∧ W'.cell? ⟨g, 2, none⟩ = some (.int .u64 r3) from fun W' hW => by
            obtain ⟨c0, c1, c2⟩ := pt_cells (HX6.out.below hW) HQ.out
            obtain ⟨e0, e1, e2⟩ := (HP6.out.below hW).cells
            obtain ⟨g0, g1, g2⟩ := (HG6.out.below hW).cells
            exact ⟨c0, c1, c2, e0, e1, e2, g0, g1, g2⟩)
          have HBc := Lib.hid (RowKit.Below.refl w6.heap.size w6)
          clear hg6 hm6
          go_wp2_with fail
          go_region_held3 (fun W' => W'.cell? ⟨b, off + n * 3, none⟩ = some (.int .i64 q1) ∧ W'.cell? ⟨b, off + n * 3 + 1, none⟩ = some (.int .u64 q2) ∧ W'.cell? ⟨b, off + n * 3 + 2, none⟩ = some (.int .u64 q3) ∧ W'.cell? ⟨w.heap.size, 0, none⟩ = some (.int .i64 p1) ∧ W'.cell? ⟨w.heap.size, 1, none⟩ = some (.int .u64 p2) ∧ W'.cell? ⟨w.heap.size, 2, none⟩ = some (.int .u64 p3) ∧ W'.cell? ⟨g, 0, none⟩ = some (.int .i64 r1) ∧ W'.cell? ⟨g, 1, none⟩ = some (.int .u64 r2) ∧ W'.cell? ⟨g, 2, none⟩ = some (.int .u64 r3)) (first | exact HS6.out _ HBc.out | exact HS6.out _ (below_drewN HBc.out _)) (first
            | (go_at_call 41; go_must (refine (HWI.out _ (by first | exact HB6.out.trans (HBc.out.mono HB6.out.size) | exact HB6.out.trans ((below_drewN HBc.out _).mono HB6.out.size))).mono ?_; rintro e wq ⟨A1, k1, rfl, ho1, hbq⟩; have hq1 := ho1.lower (Nat.le_trans hsW (Nat.le_trans HB6.out.size HBc.out.size)); have HOF := Lib.hid hq1; clear hq1 ho1; (try (have hq1 := undrewQ hbq; clear hbq; have hbq := hq1; clear hq1)); have hq1 := HBc.out.trans (hbq.mono HBc.out.size); have HBc := Lib.hid hq1; clear hq1 hbq))
            | (go_at_call 42; go_must (refine (HBE.out _).mono ?_; rintro e wq ⟨rfl, hbq⟩; (try (have hq1 := undrewQ hbq; clear hbq; have hbq := hq1; clear hq1)); (try (have hq1 := own_below_pt HOF.out hbq; have HOF := Lib.hid hq1; clear hq1)); have hq1 := HBc.out.trans (hbq.mono HBc.out.size); have HBc := Lib.hid hq1; clear hq1 hbq))
            | fail)
          all_goals
            go_wp2
            go_ret3
            exact ⟨A1, k1, by rw [HRR.out]; rfl, by rw [HRR.out]; exact HOF.out, by first | exact HBW.out.trans ((HB6.out.trans (HBc.out.mono HB6.out.size)).mono hsW) | exact below_drewN (HBW.out.trans ((HB6.out.trans (HBc.out.mono HB6.out.size)).mono hsW)) _⟩
end
end Go.Proofs.Ytinjdlplbficiaa
