/-
  A disk and the plain answers' disk of the same files are told to be the same.
-/
import Derived.Deep.RegionHeld3
import Derived.Test.YtnmbjhpecblioaaZfm
import Derived.Test.YtnmbjhpecblioaaDl
import Derived.Test.YtnmbjhpecblioaaEq
namespace Go.Proofs.Ytnmbjhpecblioaa
set_option linter.unusedVariables false
set_option linter.unusedSimpArgs false
open Go.Maps Go.RowKit
theorem undrewB {B : Nat} {w w' : World} {n : Nat} (h : Below B (w.drewN n) w') : Below B w w' := ⟨h.os, h.tape, h.output, h.size, h.block⟩
theorem undrew1 {B : Nat} {w w' : World} (h : Below B w.drew w') : Below B w w' := ⟨h.os, h.tape, h.output, h.size, h.block⟩
theorem own_ltA {w : World} {base n c : Nat} {A : Option Addr} {t : TypeId} {xs : List Value} (h : w.ownsRow base t 1 (.slice A n c) n xs) {g : Nat} (hg : A.map (·.block) = some g) : g < w.heap.size := by
  cases A with
  | none => cases hg
  | some a => injection hg with hg; subst hg; exact (h.lt a.block rfl).2
theorem own_geA {w : World} {base n c : Nat} {A : Option Addr} {t : TypeId} {xs : List Value} (h : w.ownsRow base t 1 (.slice A n c) n xs) {g : Nat} (hg : A.map (·.block) = some g) : base ≤ g := by
  cases A with
  | none => cases hg
  | some a => injection hg with hg; subst hg; exact (h.lt a.block rfl).1
theorem rd_at {w : World} {A : Option Addr} {vs : List Value} {k : Nat} {v : Value} (h : Rd w A vs) (hk : vs[k]? = some v) : ∃ b off, A = some ⟨b, off, none⟩ ∧ ∀ W', Below w.heap.size w W' → W'.cell? ⟨b, off + k, none⟩ = some v := by
  obtain ⟨b, off, e, hc⟩ := h k v hk
  exact ⟨b, off, e, fun W' hb => (hb.cell (p := ⟨b, off + k, none⟩) (World.block_lt_of_cell? w _ hc)).trans hc⟩
section
set_option maxHeartbeats 3200000
set_option maxRecDepth 100000
variable {w : World} {db mb p room : Nat} {fv : Value} {es : List Ent} {ys : List RF}
theorem same_any (ha : DiskE w db mb room es) (hb : RefE w p room fv ys) (he : es.map val = ys.map rval) : Calls Try.prog 13 #[.pointer (some ⟨db, 0, none⟩), .pointer (some ⟨p, 0, none⟩)] w fun e w' => e = .returned (.bool true) ∧ Below w.heap.size w w' := by
  have hlen : es.length = ys.length := by have := congrArg List.length he; rwa [List.length_map, List.length_map] at this
  have hl64 := hb.fits.2.2
  have hv : ∀ y ∈ ys, ∃ A c, y.v = .slice A y.bs.length c := fun y hy => by obtain ⟨A, c, e, _⟩ := (hb.at_ y hy).rd; exact ⟨A, c, e⟩
  have HV := Lib.hid hv
  have HA := Lib.hid ha; have HB := Lib.hid hb; have HE := Lib.hid he
  obtain ⟨A, c, rfl, hr, hc1, hc2⟩ := own_rd_f hb.row
  unfold maxLen at hc2
  have HR := Lib.hid hr
  have HLI := Lib.hid (dlist_any ha)
  clear hr ha hb he hv
  go_enter Try.func13, Try.ntmps13
  go_wp2_with fail
  with_reducible refine HLI.out.mono ?_
  rintro e w1 ⟨vl, rfl, hol, hbl⟩
  obtain ⟨Al, cl, rfl, hrl, -, hcl1, hcl2⟩ := own_rd hol
  have HRL := Lib.hid hrl; have HB1 := Lib.hid hbl
  clear hol hrl hbl HLI
  have hs : ∀ W', Below w1.heap.size w1 W' → W'.cell? ⟨p, 0, none⟩ = some (.int .i64 (room : Nat)) ∧ W'.cell? ⟨p, 1, none⟩ = some (.slice A ys.length c) := fun W' hb => by
    have h := ((HB.out.below HB1.out).below hb).box
    have e0 := cell_blk h 0; have e1 := cell_blk h 1
    simp only [List.getElem?_toArray, List.getElem?_cons_zero, List.getElem?_cons_succ] at e0 e1
    exact ⟨e0, e1⟩
  have HS := Lib.hid hs
  obtain ⟨c0, c1⟩ := hs w1 (Below.refl _ _)
  have hz1 : ∀ W', Below w1.heap.size w1 W' → Calls Try.prog 19 #[.pointer (some ⟨db, 0, none⟩)] W' fun e w' => e = .returned (.int .i64 (lenL (ys.map rval) : Nat)) ∧ Below W'.heap.size W' w' := fun W' hb => by
    have := dsize_any ((HA.out.below HB1.out).below hb)
    rwa [HE.out] at this
  have hz2 : ∀ W', Below w1.heap.size w1 W' → Calls Try.prog 34 #[.pointer (some ⟨p, 0, none⟩)] W' fun e w' => e = .returned (.int .i64 (lenL (ys.map rval) : Nat)) ∧ Below W'.heap.size W' w' := fun W' hb => rdsize_any ((HB.out.below HB1.out).below hb)
  have hz3 : ∀ W', Below w1.heap.size w1 W' → Calls Try.prog 35 #[.pointer (some ⟨db, 0, none⟩)] W' fun e w' => e = .returned (.int .i64 (room : Nat)) ∧ Below W'.heap.size W' w' := fun W' hb => by
    refine (droom_any ((HA.out.below HB1.out).below hb)).mono ?_
    rintro e w' ⟨rfl, rfl⟩
    exact ⟨rfl, Below.refl _ _⟩
  generalize lenL (ys.map rval) = S at hz1 hz2
  have HZ1 := Lib.hid hz1; have HZ2 := Lib.hid hz2; have HZ3 := Lib.hid hz3
  have HBc := Lib.hid (Below.refl w1.heap.size w1)
  have q1 : ((es.length : Int) != (ys.length : Int)) = false := by rw [hlen]; simp
  have q2 : ((S : Int) != (S : Int)) = false := by simp
  have q3 : ((room : Int) != (room : Int)) = false := by simp
  clear hs hz1 hz2 hz3
  go_wp2_with fail
  go_region_held3 (fun W' => W'.cell? ⟨p, 0, none⟩ = some (.int .i64 (room : Nat)) ∧ W'.cell? ⟨p, 1, none⟩ = some (.slice A ys.length c)) (first | exact HS.out _ HBc.out | exact HS.out _ (below_drewN HBc.out _)) (first
    | (go_at_call 19; go_must (refine (HZ1.out _ (by first | exact HBc.out | exact below_drewN HBc.out _)).mono ?_; rintro e wq ⟨rfl, hbq⟩; (try (have hq1 := undrewB hbq; clear hbq; have hbq := hq1; clear hq1)); have hq1 := HBc.out.trans (hbq.mono HBc.out.size); have HBc := Lib.hid hq1; clear hq1 hbq))
    | (go_at_call 34; go_must (refine (HZ2.out _ (by first | exact HBc.out | exact below_drewN HBc.out _)).mono ?_; rintro e wq ⟨rfl, hbq⟩; (try (have hq1 := undrewB hbq; clear hbq; have hbq := hq1; clear hq1)); have hq1 := HBc.out.trans (hbq.mono HBc.out.size); have HBc := Lib.hid hq1; clear hq1 hbq))
    | (go_at_call 35; go_must (refine (HZ3.out _ (by first | exact HBc.out | exact below_drewN HBc.out _)).mono ?_; rintro e wq ⟨rfl, hbq⟩; (try (have hq1 := undrewB hbq; clear hbq; have hbq := hq1; clear hq1)); have hq1 := HBc.out.trans (hbq.mono HBc.out.size); have HBc := Lib.hid hq1; clear hq1 hbq))
    | fail)
  all_goals
    go_wp2
    go_loopw [44] (fun s44 wr => ∃ k : Nat, s44 = .int .i64 k ∧ k ≤ ys.length ∧ Aside (Below w1.heap.size w1 wr)) (fun s44 _ => ys.length - (intOf s44).toNat)
    case atStart => exact ⟨0, rfl, by omega, (by first | exact HBc.out | exact below_drewN HBc.out _)⟩
    case round =>
      clear HBc
      obtain ⟨k, rfl, hk, BW⟩ := hrel
      have k0 : (0 : Int) ≤ (k : Int) := by omega
      by_cases hlt : k < ys.length
      · have k1 : (k : Int) < (ys.length : Int) := by omega
        have k2 : (k : Int) ≤ (c : Int) := by omega
        have k3 : (k : Int) < (es.length : Int) := by omega
        have k4 : (k : Int) ≤ (cl : Int) := by omega
        obtain ⟨y, hy⟩ : ∃ y, ys[k]? = some y := ⟨_, List.getElem?_eq_getElem hlt⟩
        obtain ⟨x, hx⟩ : ∃ x, es[k]? = some x := ⟨_, List.getElem?_eq_getElem (by omega)⟩
        have hxy : val x = rval y := by
          have := congrArg (fun L => L[k]?) HE.out
          simp only [List.getElem?_map, hx, hy, Option.map_some] at this
          injection this
        have x1 : x.nm = y.nm := congrArg (fun f => f.1) hxy
        have x2 : x.bs = y.bs := congrArg (fun f => f.2.1) hxy
        have x3 : x.n = y.n := congrArg (fun f => f.2.2) hxy
        have hlo : lookE es y.nm = some x := by rw [← x1]; exact lookE_of HA.out.srt (List.mem_of_getElem? hx)
        have hBW : Below w.heap.size w wr := HB1.out.trans (BW.out.mono HB1.out.size)
        obtain ⟨b, off, rfl, hcl⟩ := (HR.out.below hBW).flat fcells_len (by decide) hy
        have d0 := hcl 0 _ rfl; have d1 := hcl 1 _ rfl; have d2 := hcl 2 _ rfl
        rw [Nat.add_zero] at d0
        have hyb := HB.out.at_ y (List.mem_of_getElem? hy)
        have hye := HB.out.each y (List.mem_of_getElem? hy)
        have hyl : y.bs.length ≤ 16777216 := by rw [← x2]; exact HA.out.len (List.mem_of_getElem? hx)
        have hrx := rd_at HRL.out (k := k) (v := .string y.nm) (by rw [List.getElem?_map, hx, ← x1]; rfl)
        obtain ⟨lb, lo, rfl, hlc⟩ := hrx
        obtain ⟨Ay, cy, hyv, hyr, -, -⟩ := hyb.rd
        obtain ⟨nm, v, bs, n⟩ := y
        simp only at d0 d1 d2 x1 x2 x3 hlo hyb hye hyl hyv hyr hlc hy
        subst hyv
        obtain ⟨W1, hW1⟩ : ∃ W1, W1 = wr.alloc (.cells #[.string nm, .slice Ay bs.length cy, .int .i64 (n : Nat)] 66) := ⟨_, rfl⟩
        have hbw1 : Below wr.heap.size wr W1 := by rw [hW1]; exact (Below.refl _ wr).alloc (Nat.le_refl _) _
        have hbx : W1.heap[wr.heap.size]? = some (.cells #[.string nm, .slice Ay bs.length cy, .int .i64 (n : Nat)] 66 (0, 0)) := by rw [hW1]; exact heap_alloc_new wr _
        have hB1 : Below w1.heap.size w1 W1 := BW.out.trans (hbw1.mono BW.out.size)
        have hs9 : ∀ W', Below W1.heap.size W1 W' → W'.cell? ⟨lb, lo + k, none⟩ = some (.string nm) ∧ W'.cell? ⟨wr.heap.size, 0, none⟩ = some (.string nm) ∧ W'.cell? ⟨wr.heap.size, 1, none⟩ = some (.slice Ay bs.length cy) ∧ W'.cell? ⟨wr.heap.size, 2, none⟩ = some (.int .i64 (n : Nat)) := fun W' hb => by
          have h := (hb.block _ (blk_lt hbx)).trans hbx
          have e0 := cell_blk h 0; have e1 := cell_blk h 1; have e2 := cell_blk h 2
          simp only [List.getElem?_toArray, List.getElem?_cons_zero, List.getElem?_cons_succ] at e0 e1 e2
          exact ⟨hlc W' (hB1.trans (hb.mono hB1.size)), e0, e1, e2⟩
        have HS9 := Lib.hid hs9
        obtain ⟨l0, e0, e1, e2⟩ := hs9 W1 (Below.refl _ _)
        have hA1 := HA.out.below (HB1.out.trans (hB1.mono HB1.out.size))
        have hrd := dread_any hA1 nm (by unfold maxLen; omega)
        have hls := fun (W' : World) (hb : Below W1.heap.size W1 W') => dlasts_any (hA1.below hb) nm (by unfold maxLen; omega)
        rw [hlo] at hrd
        simp only [hlo] at hls
        unfold ReadOut at hrd
        simp only at hrd
        rw [x2] at hrd
        rw [x3] at hls
        have HRD := Lib.hid hrd; have HLS := Lib.hid hls
        have HYR := Lib.hid (show Rd W1 Ay (bs.map Bv) from hyr.below (HB1.out.trans (hB1.mono HB1.out.size)))
        have HW1 := Lib.hid hW1; have HBW1 := Lib.hid hB1
        clear hcl hy hx hxy x1 x2 x3 hlo hBW hyb hye hlc hyr hbw1 hbx hB1 hs9 hA1 hrd hls hW1 BW
        go_wp2_with fail
        rw [← HW1.out]
        go_wp2_with fail
        with_reducible refine HRD.out.mono ?_
        rintro e w2 ⟨A2, c2, rfl, ho2, hb2⟩
        obtain ⟨A2', c2', e2', hr2, -⟩ := own_bytes ho2
        injection e2' with e2' _ e3'
        subst e2'; subst e3'
        obtain ⟨-, f0, f1, f2⟩ := HS9.out w2 hb2
        have HO2 := Lib.hid ho2; have HB2 := Lib.hid hb2; have HR2 := Lib.hid hr2
        have HLS2 := Lib.hid (HLS.out w2 hb2)
        clear ho2 hb2 hr2
        go_wp2_with fail
        with_reducible refine HLS2.out.mono ?_
        rintro e w2' ⟨rfl, rfl⟩
        have heq : ∀ W', Below w2.heap.size w2 W' → Calls Try.prog 36 #[.slice A2 bs.length c2, .slice Ay bs.length cy] W' fun e w' => e = .returned (.bool true) ∧ Below W'.heap.size W' w' := fun W' hb => by
          refine (equal_yes A2 Ay c2 cy bs.length bs.length bs bs W' rfl rfl rfl (HR2.out.below hb) (HYR.out.below (HB2.out.trans (hb.mono HB2.out.size))) (by omega)).mono ?_
          rintro e w' ⟨rfl, m, rfl⟩
          exact ⟨rfl, below_drewN (Below.refl _ _) m⟩
        have HEQ := Lib.hid heq
        have HBc := Lib.hid (Below.refl w2.heap.size w2)
        have t1 : (nm.toList != nm.toList) = false := by simp
        have t2 : ((n : Int) != (n : Int)) = false := by simp
        clear heq
        go_wp2_with fail
        go_region_held3 (fun W' => W'.cell? ⟨lb, lo + k, none⟩ = some (.string nm) ∧ W'.cell? ⟨wr.heap.size, 0, none⟩ = some (.string nm) ∧ W'.cell? ⟨wr.heap.size, 1, none⟩ = some (.slice Ay bs.length cy) ∧ W'.cell? ⟨wr.heap.size, 2, none⟩ = some (.int .i64 (n : Nat))) (first | exact HS9.out _ (HB2.out.trans (HBc.out.mono HB2.out.size)) | exact HS9.out _ (below_drewN (HB2.out.trans (HBc.out.mono HB2.out.size)) _)) (first
          | (go_at_call 36; go_must (refine (HEQ.out _ (by first | exact HBc.out | exact below_drewN HBc.out _)).mono ?_; rintro e wq ⟨rfl, hbq⟩; (try (have hq1 := undrewB hbq; clear hbq; have hbq := hq1; clear hq1)); have hq1 := HBc.out.trans (hbq.mono HBc.out.size); have HBc := Lib.hid hq1; clear hq1 hbq))
          | fail)
        all_goals
          go_wp2
          go_loopw [93] (fun s93 wr2 => ∃ j : Nat, s93 = .int .i64 j ∧ j ≤ bs.length ∧ Aside (SR wr2 A2 bs.length) ∧ Aside (Mv (fun g => A2.map (·.block) = some g) w2 wr2)) (fun s93 _ => bs.length - (intOf s93).toNat)
          case atStart => exact ⟨0, rfl, by omega, (by first | exact (sr_own HO2.out).moved (fun g hg => HBc.out.block g (own_ltA HO2.out hg)) | exact (sr_own HO2.out).moved (fun g hg => (below_drewN HBc.out _).block g (own_ltA HO2.out hg))), (by first | exact Mv.of_below HBc.out _ | exact Mv.of_below (below_drewN HBc.out _) _)⟩
          case round =>
            clear HBc
            obtain ⟨j, rfl, hj, RS, MV⟩ := hrel
            have j0 : (0 : Int) ≤ (j : Int) := by omega
            by_cases hjl : j < bs.length
            · have j1 : (j : Int) < (bs.length : Int) := by omega
              obtain ⟨g, cs, bb, rfl, hg, hc⟩ := RS.out j hjl
              have g0 := cell_blk hg j
              rw [hc, Bv_def] at g0
              have q0 := free_blk hg j
              obtain ⟨y1, y2⟩ := xor_u8 bb
              have HS1 := Lib.hid (RS.out.set (k := j) y2)
              have HM1 := Lib.hid (MV.out.setCell (p := ⟨g, j, none⟩) (fun _ => rfl) (.int .u8 ((bb.toNat ^^^ 255 : Nat) : Int)))
              generalize bb.toNat ^^^ 255 = z at y1 HS1 HM1
              clear RS MV hg hc y2
              go_wp2_with fail
              go_roundw
              case rel => exact ⟨j + 1, by go_num, by omega, (show Aside _ from HS1.out), (show Aside _ from HM1.out)⟩
              case measure => simp [intOf]; omega
            · obtain rfl : j = bs.length := by omega
              have hz1 := HBW1.out.size
              have hz2 := HB2.out.size
              have hfin : Below w1.heap.size w1 _ := HBW1.out.trans ((HB2.out.mono hz1).trans (MV.out.belowB (Nat.le_trans hz1 hz2) fun i hi hg => by have := own_geA HO2.out hg; omega))
              have HF := Lib.hid hfin
              clear hfin RS MV
              go_wp2
              go_roundw
              case rel => exact ⟨k + 1, by go_num, by omega, (show Aside _ from HF.out)⟩
              case measure => simp [intOf]; omega
      · obtain rfl : k = ys.length := by omega
        have hfin := HB1.out.trans (BW.out.mono HB1.out.size)
        have HF := Lib.hid hfin
        clear hfin BW
        go_wp2
        go_ret
        exact ⟨rfl, HF.out⟩
end
end Go.Proofs.Ytnmbjhpecblioaa
