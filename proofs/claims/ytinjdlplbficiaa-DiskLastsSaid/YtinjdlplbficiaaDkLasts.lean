/-
  DiskLasts (P11.4, P11.5): behind a crash a file is the beginning of what it was, with all that lasted; another crash changes nothing. No condition.
-/
import Derived.Test.YtinjdlplbficiaaDv
import Derived.Test.YtinjdlplbficiaaDx
import Derived.Test.YtinjdlplbficiaaDl
import Derived.Test.YtinjdlplbficiaaDi
import Derived.Test.YtinjdlplbficiaaDj
namespace Go.Proofs.Ytinjdlplbficiaa
set_option linter.unusedVariables false
set_option linter.unusedSimpArgs false
open Go.ChangeShapes Go.WideShapes Go.ChangeAt Go.RowKit
theorem look_crash {keep : Int} {f : Fl} : ∀ {L : List Fl}, (L.Pairwise fun a b => a.1 ≠ b.1) → f ∈ L → lookL (crashD keep L) f.1 = crashF keep f
  | y :: r, hp, hf => by
    rw [List.pairwise_cons] at hp
    unfold crashD
    rcases List.mem_cons.1 hf with rfl | hf
    · have hr : ∀ g ∈ r.filterMap (crashF keep), g.1 ≠ f.1 := fun g hg e => by
        obtain ⟨z, hz, e2⟩ := List.mem_filterMap.1 hg
        rw [crashF_name e2] at e
        exact hp.1 z hz e.symm
      cases hc : crashF keep f with
      | none =>
        rw [List.filterMap_cons_none hc]
        unfold lookL; rw [List.find?_eq_none]; intro g hg; simp [hr g hg]
      | some g =>
        rw [List.filterMap_cons_some hc]
        unfold lookL; rw [List.find?_cons, crashF_name hc]; simp
    · have hne : y.1 ≠ f.1 := hp.1 f hf
      have ih := look_crash (keep := keep) hp.2 hf
      unfold crashD at ih
      cases hc : crashF keep y with
      | none => rw [List.filterMap_cons_none hc]; exact ih
      | some g =>
        rw [List.filterMap_cons_some hc]
        unfold lookL at ih ⊢
        rw [List.find?_cons, decide_eq_false (by rw [crashF_name hc]; exact hne)]
        exact ih
theorem crash_again {keep : Int} : ∀ {L : List Fl}, (∀ f ∈ L, f.2.2 ≤ f.2.1.length) → crashD 0 (crashD keep L) = crashD keep L
  | [], _ => rfl
  | y :: r, h => by
    have ih := crash_again (keep := keep) (L := r) fun f hf => h f (by simp [hf])
    have hy := h y (by simp)
    unfold crashD at ih ⊢
    cases hc : crashF keep y with
    | none => rw [List.filterMap_cons_none hc]; exact ih
    | some g =>
      have hg : crashF 0 g = some g := by
        unfold crashF at hc
        split at hc
        · cases hc
        · rename_i hn
          injection hc with hc
          have hl : leftD keep y ≤ y.2.1.length := by unfold leftD; omega
          have h1 : (y.2.1.take (leftD keep y)).length = leftD keep y := by rw [List.length_take]; omega
          rw [← hc]
          unfold crashF
          have h2 : leftD 0 (y.1, y.2.1.take (leftD keep y), leftD keep y) = leftD keep y := by
            show leftD keep y + min (0 : Int).toNat _ = _
            simp
          rw [h2, if_neg hn]
          show some (y.1, (y.2.1.take (leftD keep y)).take (leftD keep y), leftD keep y) = _
          rw [List.take_take, Nat.min_self]
      rw [List.filterMap_cons_some hc, List.filterMap_cons_some hg, ih]
theorem crash_len (keep : Int) (L : List Fl) : (crashD keep L).length ≤ L.length := List.length_filterMap_le _ _
section
set_option maxHeartbeats 3200000
set_option maxRecDepth 100000
theorem diskLasts_walk (A : Option Addr) (c : Nat) (l : List OpD) (keep : Int) (W : World) (hx : Rd W A (l.flatMap opV)) (hlc : l.length ≤ c) (hcm : c ≤ 9223372036854775807) (hz : ∀ o ∈ l, OpOk W o) :
    Calls Try.prog 5 #[.slice A l.length c, .int .i64 keep] W fun e w' => e = .returned (.bool true) ∧ RowKit.Below W.heap.size W w' := by
  have HX := Lib.hid hx; have HZ := Lib.hid hz
  clear hx hz
  go_enter Try.func5, Try.ntmps5
  go_wp2_with fail
  with_reducible refine (dnew_any 16777216 W (by decide)).mono ?_
  rintro e w1 ⟨rfl, D1, hb1⟩
  rw [show Int.toNat 16777216 = 16777216 from rfl] at D1
  have F1 : ∀ k, foot (W.heap.size + 1) W.heap.size [] k → W.heap.size ≤ k := by
    rintro k (h | h | ⟨e, he, _⟩)
    · omega
    · omega
    · simp at he
  obtain ⟨db, hdb⟩ : ∃ db, db = W.heap.size + 1 := ⟨_, rfl⟩
  obtain ⟨mb, hmb⟩ : ∃ mb, mb = W.heap.size := ⟨_, rfl⟩
  rw [← hdb] at D1 F1 ⊢
  rw [← hmb] at D1 F1
  rw [hmb] at F1
  rw [← hmb] at F1
  have F1' : ∀ k, foot db mb [] k → W.heap.size ≤ k := fun k hk => by rw [← hmb]; exact F1 k hk
  have HD1 := Lib.hid D1; have HF1 := Lib.hid F1'; have HB1 := Lib.hid hb1
  clear D1 F1 F1' hb1 hdb hmb
  go_wp2_with fail
  with_reducible refine (dlive_any _).mono ?_
  rintro e w2 ⟨rfl, hb2⟩
  have HB2 := Lib.hid (HB1.out.trans (hb2.mono HB1.out.size))
  have HD2 := Lib.hid (HD1.out.below hb2)
  clear HB1 HD1 hb2
  go_wp2_with fail
  with_reducible refine (few_any A c l w2 (HX.out.below HB2.out) hlc (fun o ho => (HZ.out o ho).below HB2.out)).mono ?_
  rintro e w3 ⟨K, hK, rfl, hsm, hb3⟩
  have HB3 := Lib.hid (HB2.out.trans (hb3.mono HB2.out.size))
  have HD3 := Lib.hid (HD2.out.below hb3)
  have HSM := Lib.hid hsm
  clear HB2 HD2 hb3 hsm
  go_wp2
  go_loopw [40] (fun s40 wr => ∃ (k : Nat) (es : List Ent), s40 = .int .i64 k ∧ k ≤ K ∧ Aside (DiskE wr db mb 16777216 es) ∧ Aside (∀ k, foot db mb es k → W.heap.size ≤ k) ∧ Aside (Below W.heap.size W wr)) (fun s40 _ => K - (intOf s40).toNat)
  case atStart => exact ⟨0, [], rfl, by omega, HD3.out, HF1.out, HB3.out⟩
  case round =>
    clear HD3 HF1 HB3
    obtain ⟨k, es, rfl, hk, DE, FE, BE⟩ := hrel
    have k0 : (0 : Int) ≤ (k : Int) := by omega
    by_cases hlt : k < K
    · have k1 : (k : Int) < (K : Int) := by omega
      obtain ⟨x, hxk⟩ : ∃ x, l[k]? = some x := ⟨_, List.getElem?_eq_getElem (by omega)⟩
      obtain ⟨b, off, rfl, hc⟩ := (HX.out.below BE.out).flat opV_len (by decide) hxk
      have c0 := hc 0 _ rfl; have c1 := hc 1 _ rfl; have c2 := hc 2 _ rfl; have c3 := hc 3 _ rfl; have c4 := hc 4 _ rfl
      rw [Nat.add_zero] at c0
      have hxs : x.bs.length ≤ 30000 := HSM.out x (by
        have : (l.take K)[k]? = some x := by rw [List.getElem?_take, if_pos hlt]; exact hxk
        exact List.mem_of_getElem? this)
      have hba := BE.out.alloc BE.out.size (.cells (opV x).toArray 47)
      have hda := DE.out.below ((Below.refl _ wr).alloc (Nat.le_refl _) (.cells (opV x).toArray 47))
      have HDO := Lib.hid (does_any hda x ((HZ.out x (List.mem_of_getElem? hxk)).below hba) (by omega))
      have HBA := Lib.hid hba
      clear hc hxk hxs hda hba
      generalize hcd : doD 16777216 (es.map val) x = RR at HDO
      clear hcd
      obtain ⟨xkd, xnm, xnt, xA, xc, xbs, xn⟩ := x
      unfold opV at HDO HBA
      simp only at c0 c1 c2 c3 c4 HDO HBA
      go_wp2_with fail
      with_reducible refine HDO.out.mono ?_
      rintro e w4 hM
      obtain ⟨rfl, es2, D4, L4, hb4, F4⟩ := hM.keep (base := W.heap.size) HBA.out.size FE.out
      have HD4 := Lib.hid D4; have HF4 := Lib.hid F4; have HB4 := Lib.hid (HBA.out.trans hb4)
      clear D4 F4 hb4 L4 hM
      go_wp2
      go_roundw
      case rel => exact ⟨k + 1, es2, by go_num, by omega, HD4.out, HF4.out, HB4.out⟩
      case measure => simp [intOf]; omega
    · obtain rfl : k = K := by omega
      clear k0 hlt hk HSM
      have hl1 := dlist_any DE.out
      have hes := DE.out.fits.2.2
      go_wp2_with fail
      with_reducible refine hl1.mono ?_
      rintro e w4 ⟨v4, rfl, ho4, hb4⟩
      obtain ⟨A4, c4, rfl, hr4, -, -, -⟩ := own_rd ho4
      have HR4 := Lib.hid hr4; have HB4 := Lib.hid (BE.out.trans (hb4.mono BE.out.size)); have HD4 := Lib.hid (DE.out.below hb4)
      clear ho4 hr4 hb4 hl1
      go_wp2_with fail
      with_reducible refine (clone_any HD4.out).mono ?_
      rintro e w5 ⟨cdb, cmb, cur, rfl, C5, L5, F5, hb5⟩
      have HB5 := Lib.hid (HB4.out.trans (hb5.mono HB4.out.size)); have HD5 := Lib.hid (HD4.out.below hb5); have HR5 := Lib.hid (HR4.out.below hb5)
      have HC5 := Lib.hid C5; have HL5 := Lib.hid L5; have HF5 := Lib.hid F5; have HS5 := Lib.hid hb5.size; have HB45 := Lib.hid (fun b (hb : b < w4.heap.size) => hb5.block b hb)
      clear C5 L5 F5 hb5
      go_wp2_with fail
      with_reducible refine (crash_any HC5.out keep).mono ?_
      rintro e w6 ⟨rfl, cr, C6, L6, hmv6, F6⟩
      have hlow : ∀ k, k < w4.heap.size → w6.heap[k]? = w5.heap[k]? := fun k hk => hmv6.block k (Nat.lt_of_lt_of_le hk HS5.out) (fun hf => by have := HF5.out k hf; omega)
      have hB6 : Below W.heap.size W w6 := HB5.out.trans (hmv6.belowB HB5.out.size (fun k hk hf => by have := HF5.out k hf; have := HB4.out.size; omega))
      have hD6 : DiskE w6 db mb 16777216 es := HD5.out.moved fun k hk => hlow k (HD4.out.lt hk)
      have hR6 : Rd w6 A4 (es.map fun e => .string e.nm) := HR4.out.blk fun b hb _ => (hlow b hb).trans (HB45.out b hb)
      have hv := L6
      rw [HL5.out] at hv
      have hfc : ∀ x ∈ es, ∀ W', Below w6.heap.size w6 W' → Calls Try.prog 26 #[.pointer (some ⟨cdb, 0, none⟩), .string x.nm] W' (ReadOut W' (lookE cr x.nm)) := fun x hx W' hb => dread_any (C6.below hb) x.nm (by have := (DE.out.each x hx).2; unfold maxLen; omega)
      have hfl : ∀ x ∈ es, ∀ W', Below w6.heap.size w6 W' → Calls Try.prog 28 #[.pointer (some ⟨cdb, 0, none⟩), .string x.nm] W' fun e w' => e = .returned (match lookE cr x.nm with | none => .tuple #[.int .i64 0, .int .i64 4] | some x => .tuple #[.int .i64 (x.n : Nat), .int .i64 0]) ∧ W' = w' := fun x hx W' hb => dlasts_any (C6.below hb) x.nm (by have := (DE.out.each x hx).2; unfold maxLen; omega)
      have hlk : ∀ x ∈ es, (lookE cr x.nm).map val = crashF keep (val x) := fun x hx => by
        rw [← look_val, hv]
        exact look_crash (f := val x) (srt_fst DE.out.srt) (List.mem_map.2 ⟨x, hx, rfl⟩)
      have hv2 : crashD 0 (cr.map val) = cr.map val := by
        rw [hv]; exact crash_again fun f hf => by
          obtain ⟨x, hx, rfl⟩ := List.mem_map.1 hf
          exact (DE.out.each x hx).1
      have hcl : cr.length ≤ es.length := by
        have h1 := crash_len keep (es.map val)
        rw [← hv, List.length_map, List.length_map] at h1
        exact h1
      have HFC := Lib.hid hfc; have HFL := Lib.hid hfl; have HLK := Lib.hid hlk; have HV2 := Lib.hid hv2
      have HD6 := Lib.hid hD6; have HR6 := Lib.hid hR6; have HB6 := Lib.hid hB6; have HC6 := Lib.hid C6
      have HF6 := Lib.hid (fun k (hk : foot cdb cmb cr k) => HF5.out k (F6 k hk))
      have hw46 : w4.heap.size ≤ w6.heap.size := Nat.le_trans HS5.out hmv6.size
      have HS46 := Lib.hid hw46
      clear hlow hB6 hD6 hR6 hv hfc hfl hlk hv2 C6 L6 hmv6 F6 HR5 HD5 HB5 HC5 HL5 HF5 HS5 HB45 HD4 HR4 hw46
      go_wp2
      go_loopw [59] (fun s59 wr => ∃ k : Nat, s59 = .int .i64 k ∧ k ≤ es.length ∧ Aside (Below w6.heap.size w6 wr)) (fun s59 _ => es.length - (intOf s59).toNat)
      case atStart => exact ⟨0, rfl, by omega, Below.refl _ _⟩
      case round =>
        obtain ⟨k, rfl, hk, BW⟩ := hrel
        have k0 : (0 : Int) ≤ (k : Int) := by omega
        by_cases hlt : k < es.length
        · have k1 : (k : Int) < (es.length : Int) := by omega
          obtain ⟨x, hxk⟩ : ∃ x, es[k]? = some x := ⟨_, List.getElem?_eq_getElem hlt⟩
          have hxm := List.mem_of_getElem? hxk
          have hD := HD6.out.below BW.out
          have hxs : x.nm.size ≤ maxLen := by have := (hD.each x hxm).2; unfold maxLen; omega
          have hn4 : (es.map fun e => Value.string e.nm)[k]? = some (.string x.nm) := by rw [List.getElem?_map, hxk]; rfl
          obtain ⟨b4, o4, rfl, c40⟩ := (HR6.out.below BW.out) k _ hn4
          have hrd1 := dread_any hD x.nm hxs
          rw [lookE_of hD.srt hxm] at hrd1
          unfold ReadOut at hrd1
          simp only at hrd1
          have hls1 : ∀ W', Below wr.heap.size wr W' → Calls Try.prog 28 #[.pointer (some ⟨db, 0, none⟩), .string x.nm] W' fun e w' => e = .returned (.tuple #[.int .i64 (x.n : Nat), .int .i64 0]) ∧ W' = w' := fun W' hb => by
            have := dlasts_any (hD.below hb) x.nm hxs
            rwa [lookE_of hD.srt hxm] at this
          have hlx := hD.len hxm
          have hnx := (hD.each x hxm).1
          have hrd2 := HFC.out x hxm; have hls2 := HFL.out x hxm; have hcr := HLK.out x hxm
          have hdef : leftD keep (val x) = x.n + min keep.toNat (x.bs.length - x.n) := rfl
          obtain ⟨q2, q3⟩ := left_nat (keep := keep) hnx
          obtain ⟨m, hm⟩ : ∃ m, m = min keep.toNat (x.bs.length - x.n) := ⟨_, rfl⟩
          obtain ⟨K', hK'⟩ : ∃ K, K = keep.toNat := ⟨_, rfl⟩
          obtain ⟨N, hN⟩ : ∃ N, N = x.n + m := ⟨_, rfl⟩
          rw [← hm] at q3 hdef
          rw [← hN] at hdef
          rw [← hK'] at q2 q3
          have hNl : N ≤ x.bs.length := by omega
          have hcr2 : crashF keep (val x) = if N = 0 then none else some (x.nm, x.bs.take N, N) := by unfold crashF; rw [hdef]; rfl
          rw [hcr2] at hcr
          have q1 : IntKind.i64.wrap ((x.bs.length : Int) - (x.n : Int)) = (x.bs.length : Int) - (x.n : Int) := IntWalk.i64_in _ (by omega)
          have q4 : IntKind.i64.wrap ((x.n : Int) + (m : Int)) = (N : Int) := by rw [IntWalk.i64_in _ (by omega)]; omega
          have q5 : (x.n : Int) + (m : Int) = (N : Int) := by omega
          have p1 : ¬ ((x.n : Nat) : Int) < 0 := by omega
          have p2 : ¬ ((x.bs.length : Nat) : Int) < ((x.n : Nat) : Int) := by omega
          have HD1 := Lib.hid hrd1; have HS1 := Lib.hid hls1
          clear hrd1 hls1 hxk hxm hD hn4 hxs hdef hcr2 hm hK' hN
          generalize x.nm = nx at *
          generalize x.bs = bx at *
          generalize x.n = mx at *
          by_cases hN0 : N = 0
          · rw [if_pos hN0] at hcr
            have hno : lookE cr nx = none := by cases h : lookE cr nx with | none => rfl | some z => rw [h] at hcr; cases hcr
            rw [hno] at hrd2 hls2
            unfold ReadOut at hrd2
            simp only at hrd2 hls2
            have HD2 := Lib.hid hrd2; have HS2 := Lib.hid hls2
            have z : ((N : Nat) : Int) = 0 := by omega
            have HZN := Lib.hid z
            clear hrd2 hls2 hcr hno z
            go_wp2_with fail
            with_reducible refine HD1.out.mono ?_
            rintro e x1 ⟨A1, c1, rfl, ho1, hb1⟩
            have HX1 := Lib.hid hb1
            clear ho1 hb1
            go_wp2_with fail
            with_reducible refine (HS1.out x1 HX1.out).mono ?_
            rintro e x3 ⟨rfl, rfl⟩
            have HBx := Lib.hid (BW.out.trans (HX1.out.mono BW.out.size))
            go_wp2_with fail
            with_reducible refine (HD2.out x1 HBx.out).mono ?_
            rintro e x3 ⟨rfl, rfl⟩
            go_wp2_with fail
            with_reducible refine (HS2.out x1 HBx.out).mono ?_
            rintro e x3 ⟨rfl, rfl⟩
            have z := HZN.out
            go_wp2
            go_roundw
            case rel => exact ⟨k + 1, by go_num, by omega, (show Aside _ from HBx.out)⟩
            case measure => simp [intOf]; omega
          · rw [if_neg hN0] at hcr
            obtain ⟨y, hy, y1, y2, y3⟩ : ∃ y : Ent, lookE cr nx = some y ∧ y.nm = nx ∧ y.bs = bx.take N ∧ y.n = N := by
              cases h : lookE cr nx with
              | none => rw [h] at hcr; cases hcr
              | some z =>
                rw [h] at hcr
                injection hcr with hcr
                exact ⟨z, rfl, congrArg (·.1) hcr, congrArg (·.2.1) hcr, congrArg (·.2.2) hcr⟩
            have hlN : (bx.take N).length = N := by rw [List.length_take]; omega
            rw [hy] at hrd2 hls2
            unfold ReadOut at hrd2
            simp only at hrd2 hls2
            rw [y2, hlN] at hrd2
            rw [y3] at hls2
            have HD2 := Lib.hid hrd2; have HS2 := Lib.hid hls2; have HLN := Lib.hid hlN
            have z : ¬ ((N : Nat) : Int) = 0 := by omega
            clear hrd2 hls2 hcr hy y1 y2 y3 hlN
            go_wp2_with fail
            with_reducible refine HD1.out.mono ?_
            rintro e x1 ⟨A1, c1, rfl, ho1, hb1⟩
            obtain ⟨A1', c1', e1, hr1, hc1⟩ := own_bytes ho1
            injection e1 with e1 _ e2; subst e1; subst e2
            have HX1 := Lib.hid hb1; have HR1 := Lib.hid hr1
            clear ho1 hb1 hr1
            go_wp2_with fail
            with_reducible refine (HS1.out x1 HX1.out).mono ?_
            rintro e x3 ⟨rfl, rfl⟩
            have HBx := Lib.hid (BW.out.trans (HX1.out.mono BW.out.size))
            go_wp2_with fail
            with_reducible refine (HD2.out x1 HBx.out).mono ?_
            rintro e x2 ⟨A2, c2, rfl, ho2, hb2⟩
            obtain ⟨A2', c2', e2, hr2, -⟩ := own_bytes (xs := bx.take N) ho2
            injection e2 with e2 e4 e3; subst e2; subst e3; clear e4
            have HBx2 := Lib.hid (HBx.out.trans (hb2.mono HBx.out.size))
            have hst := starts_any A1 A2 c1 c2 bx (bx.take N) x2 (HR1.out.below hb2) hr2 hc1 (by omega) (by rw [HLN.out]; omega)
            rw [HLN.out, decide_eq_true (⟨hNl, rfl⟩ : N ≤ bx.length ∧ bx.take N = bx.take N)] at hst
            have HST := Lib.hid hst
            clear ho2 hb2 hr2 hst
            go_wp2_with fail
            with_reducible refine (HS2.out x2 HBx2.out).mono ?_
            rintro e x3 ⟨rfl, rfl⟩
            go_wp2_with fail
            with_reducible refine HST.out.mono ?_
            rintro e x3 ⟨rfl, m', rfl⟩
            go_wp2
            go_roundw
            case rel => exact ⟨k + 1, by go_num, by omega, (show Aside _ from below_drewN HBx2.out m')⟩
            case measure => simp [intOf]; omega
        · obtain rfl : k = es.length := by omega
          have HC7 := Lib.hid (HC6.out.below BW.out)
          have HB7 := Lib.hid (HB6.out.trans (BW.out.mono HB6.out.size))
          have hs7 := dsize_any HC7.out
          have hcf := HC7.out.fits.2.2
          generalize hT : lenL (cr.map val) = T at hs7
          have HT := Lib.hid hT
          have hws : W.heap.size ≤ w4.heap.size := HB4.out.size
          have HSW := Lib.hid (Nat.le_trans HS46.out BW.out.size)
          clear HFC HFL HLK hT
          go_wp2_with fail
          with_reducible refine hs7.mono ?_
          rintro e w7 ⟨rfl, hb7⟩
          have HC8 := Lib.hid (HC7.out.below hb7); have HB8 := Lib.hid (HB7.out.trans (hb7.mono HB7.out.size)); have HS8 := Lib.hid hb7.size
          clear hb7 hs7
          go_wp2_with fail
          with_reducible refine (crash_any HC8.out 0).mono ?_
          rintro e w8 ⟨rfl, c2, C9, L9, hmv9, F9⟩
          rw [HV2.out] at L9
          have HB9 := Lib.hid (HB8.out.trans (hmv9.belowB HB8.out.size (fun k hk hf => by have := HF6.out k hf; omega)))
          have hs9 := dsize_any C9
          have hl9 := fun (W' : World) (hb : Below w8.heap.size w8 W') => dlist_any (C9.below hb)
          have hlen : c2.length = cr.length := by have := congrArg List.length L9; simpa using this
          rw [L9, HT.out] at hs9
          rw [hlen] at hl9
          have HS9 := Lib.hid hs9; have HL9 := Lib.hid hl9
          clear C9 L9 hmv9 F9 hs9 hl9 hlen
          go_wp2_with fail
          with_reducible refine HS9.out.mono ?_
          rintro e w9 ⟨rfl, hb9⟩
          have HB10 := Lib.hid (HB9.out.trans (hb9.mono HB9.out.size))
          have hl := HL9.out w9 hb9
          clear hb9
          go_wp2_with fail
          with_reducible refine hl.mono ?_
          rintro e w10 ⟨v, rfl, ho, hb⟩
          obtain ⟨A9, c9, rfl, -⟩ := own_rd ho
          have p3 : (cr.length : Int) ≤ (es.length : Int) := by omega
          go_wp2
          go_ret
          exact ⟨rfl, HB10.out.trans (hb.mono HB10.out.size)⟩
end

set_option maxRecDepth 100000 in
theorem diskLasts_lifted (os : Os) (started : os.Started) (H : Type) (enc : TypeId × Value → H) :
    ReturnsInHanded {} Try.checked os 5 .any (Rows.diskLastsSpec.pre6 enc Try.prog Try.f5 Rows.diskLastsRow.domain false) (Rows.diskLastsSpec.post enc Try.prog Try.f5 false true false false) := by
  refine returnsInHanded_of_change (C := Try.checked) ownKn started (by kernel_rfl) Try.func5
    (ChangeSpec.witness6 (enc := enc) (C := Try.checked) false ⟨#[], #[.slice none 0 0, .int .i64 0], []⟩ 8 (by kernel_rfl) (by kernel_rfl) (by kernel_rfl) (by kernel_rfl)) ?_
  intro W base args ds gs before hval0 hW hcnd _
  have hval : ∀ (j : Nat) t v, Try.f5.params[j]? = some t → args[j]? = some v → Value.okWide Try.prog W .any base t v := hval0
  have hW' := hW
  obtain ⟨p, q, hA0, hV, rfl, hfz, hnd⟩ := hW
  have hA : DataW.TrodAll enc Try.prog W 0 (fun _ => true) true Try.f5.params.toList args.toList ds p := hA0
  rw [Try.params5] at hA hval
  obtain ⟨v0, vs0, d0, ds0, p0, q0, hargs, rfl, rfl, h0, r0⟩ := trodAll_cons hA
  obtain ⟨v1, vs1, d1, ds1, p1, q1, rfl, rfl, rfl, h1, r1⟩ := trodAll_cons r0
  obtain ⟨rfl, rfl, rfl⟩ := trodAll_nil r1
  obtain rfl : args = #[v0, v1] := by cases args; simp_all
  obtain ⟨rfl, rfl⟩ := trodVars_none hV
  obtain ⟨A0, c0, l0, rfl, hm0, hx0, ho0⟩ := open_ops (hval 0 36 v0 rfl rfl) h0
  obtain ⟨a1, rfl, rfl, rfl, w1⟩ := open_int Try.underlying3 (hval 1 3 v1 rfl rfl) h1
  clear hA0 hval0 hA
  unfold maxLen at hm0
  have b1 := bounds_i64 w1
  refine (diskLasts_walk A0 c0 l0 a1 W hx0 hm0.1 hm0.2 ho0).mono fun e W' ⟨he, hg⟩ => ?_
  subst he
  exact ⟨_, rfl, law_end laidOut (by kernel_rfl) (by kernel_rfl) Try.underlying4 rfl hW' ⟨rfl, rfl, rfl⟩ hg⟩

theorem diskLasts_holds : Rows.DiskLastsSaid :=
  OpenClaim.holds_of_wide 5 Try.f5 rfl rfl rfl rfl rfl rfl rfl ⟨rfl, rfl, rfl, rfl, rfl⟩ rfl rfl rfl rfl rfl (by kernel_rfl) Try.func5 (by kernel_rfl)
    (of_decide_eq_true (by kernel_rfl)) (by unfold Func.isWrapper; first | (rw [if_pos (by decide +kernel)]; kernel_rfl) | (rw [if_neg (by decide +kernel)]; exact ⟨rfl, rfl⟩))
    (fun os started H enc _ => diskLasts_lifted os started H enc)
#print axioms diskLasts_holds

end Go.Proofs.Ytinjdlplbficiaa
