/-
  WalRolls (P12.5): no segment of more than one record has more than MaxSegment bytes, and they are all whole. The condition is the tables' and the library's two errors': they hold what their initialisers lay, which the card ties to the program's text.
-/
import Derived.Test.YtnmbjhpecblioaaGreatDoorWv
import Derived.Test.YtnmbjhpecblioaaGreatDoorWi
import Derived.Test.YtnmbjhpecblioaaGreatDoorWby
import Derived.Test.YtnmbjhpecblioaaGreatDoorWl
namespace Go.Proofs.YtnmbjhpecblioaaGreatDoor
set_option linter.unusedVariables false
set_option linter.unusedSimpArgs false
open Go.ChangeShapes Go.WideShapes Go.ChangeAt Go.RowKit
theorem bytes_fit {L : List Fl} (n : Nat) : (bytesW L n).length ≤ lenL L := by
  unfold bytesW
  cases hl : lookL L (titleN n) with
  | none => exact Nat.zero_le _
  | some f =>
    obtain ⟨h1, -⟩ := look_mem hl
    clear hl
    simp only
    induction L with
    | nil => cases h1
    | cons y r ih =>
      rw [lenL_cons]
      rcases List.mem_cons.1 h1 with rfl | h1
      · omega
      · have := ih h1; omega
section
set_option maxHeartbeats 3200000
set_option maxRecDepth 100000
theorem walRolls_walk (A : Option Addr) (c : Nat) (l : List OpW) (W : World) (hT : TabW W) (hx : Rd W A (l.flatMap opW)) (hlc : l.length ≤ c) (hcm : c ≤ 9223372036854775807) (hz : ∀ o ∈ l, OpWOk W o) :
    Calls Tryz.prog 6 #[.slice A l.length c] W fun e w' => e = .returned (.bool true) ∧ Below W.heap.size W w' := by
  have HX := Lib.hid hx; have HZ := Lib.hid hz; have HT := Lib.hid hT
  clear hx hz hT
  go_enter Tryz.func6, Tryz.ntmps6
  go_wp2_with fail
  with_reducible refine (wlive_any W HT.out).mono ?_
  rintro e w1 ⟨rfl, hb1⟩
  have HB1 := Lib.hid hb1; clear hb1
  go_wp2_with fail
  with_reducible refine (wfew_any A c l w1 (HX.out.below HB1.out) hlc (fun o ho => (HZ.out o ho).below HB1.out) hcm).mono ?_
  rintro e w2 ⟨F, rfl, hF, hb2⟩
  have HB2 := Lib.hid (HB1.out.trans (hb2.mono HB1.out.size)); have HF := Lib.hid hF
  clear hb2 hF HB1
  cases F with
  | false =>
    go_wp2_with fail
    with_reducible refine (wlive_any w2 (HT.out.below HB2.out)).mono ?_
    rintro e w3 ⟨rfl, hb3⟩
    have HB3 := Lib.hid (HB2.out.trans (hb3.mono HB2.out.size)); clear hb3
    go_wp2
    go_ret
    exact ⟨rfl, HB3.out⟩
  | true =>
    obtain ⟨hl40, hbs⟩ := HF.out rfl
    have HBS := Lib.hid hbs; clear hbs HF
    go_wp2_with fail
    with_reducible refine (dnew_any 200000 w2 (by decide)).mono ?_
    rintro e w3 ⟨rfl, D1, hb3⟩
    rw [show Int.toNat 200000 = 200000 from rfl] at D1
    obtain ⟨db, hdb⟩ : ∃ db, db = w2.heap.size + 1 := ⟨_, rfl⟩
    obtain ⟨mb, hmb⟩ : ∃ mb, mb = w2.heap.size := ⟨_, rfl⟩
    rw [← hdb] at D1 ⊢
    have hs2 := HB2.out.size
    have HS1 := Lib.hid (show DiskS W w3 db mb 200000 [] [] from ⟨by rw [hmb]; exact D1, (fun f hf => by simp at hf), rfl, (fun k hk => by
      rcases hk with h | h | ⟨e, he, _⟩
      · omega
      · omega
      · simp at he), HB2.out.trans (hb3.mono hs2), HT.out⟩)
    clear D1 hb3 hdb hmb hs2
    go_wp2_with fail
    with_reducible refine HS1.out.open.mono ?_
    intro e w4 hO
    obtain ⟨lb, v, P, es4, rfl, hP, hx4, hL, -, -⟩ := HS1.out.opened hO (fun h => absurd h.1 (by decide)) (x := []) (cut := none) (by rw [show segsW [] = [] from rfl, openR])
    have hP0 : P = [] := by simpa using hx4
    subst hP0
    obtain ⟨Av, cv, rfl, -⟩ := own_rd hP.1
    rw [show (cutW [] (lastW (segsW [])) none, lastW (segsW []), ([] : List (List UInt8)).length, ([] : List (List UInt8)).length) = (([], 1, 0, 0) : Lg) from rfl] at hL
    have HL := Lib.hid hL
    clear hO hP hx4 hL HS1
    go_wp2
    go_loopw [8, 51] (fun s8 s51 wr => ∃ (k N : Nat) (es : List Ent) (g : Lg) (ds : List Ch) (cc : Ch) (j : Nat), s51 = .int .i64 k ∧ s8 = .int .i64 N ∧ k ≤ l.length ∧ N ≤ k ∧ ds.length ≤ k ∧ Aside (N = (ds.flatten ++ cc).length) ∧ Aside (LogS W wr lb db mb 200000 es g) ∧ Aside (Inv g ds cc j)) (fun _ s51 _ => l.length - (intOf s51).toNat)
    case atStart => exact ⟨0, 0, es4, _, [], [], 0, rfl, rfl, by omega, by omega, by simp, rfl, HL.out, inv_new⟩
    case round =>
      clear HL
      obtain ⟨k, N, es, g, ds, cc, j, rfl, rfl, hk, hn1, hn2, NE, LS, IV⟩ := hrel
      have HNE := Lib.hid NE.out; clear NE
      have k0 : (0 : Int) ≤ (k : Int) := by omega
      by_cases hlt : k < l.length
      · have k1 : (k : Int) < (l.length : Int) := by omega
        obtain ⟨x, hxk⟩ : ∃ x, l[k]? = some x := ⟨_, List.getElem?_eq_getElem (by omega)⟩
        obtain ⟨b, off, rfl, hc⟩ := (HX.out.below LS.out.low).flat opW_len (by decide) hxk
        have c0 := hc 0 _ rfl; have c1 := hc 1 _ rfl; have c2 := hc 2 _ rfl; have c3 := hc 3 _ rfl; have c4 := hc 4 _ rfl
        rw [Nat.add_zero] at c0
        have hxs := HBS.out x (List.mem_of_getElem? hxk)
        have hok := HZ.out x (List.mem_of_getElem? hxk)
        obtain ⟨W1, hW1⟩ : ∃ W1, W1 = wr.alloc (.cells (opW x).toArray 31) := ⟨_, rfl⟩
        have hb1 : Below wr.heap.size wr W1 := by rw [hW1]; exact (Below.refl _ wr).alloc (Nat.le_refl _) _
        have hg : W1.heap[wr.heap.size]? = some (.cells (opW x).toArray 31 (0, 0)) := by rw [hW1]; exact heap_alloc_new wr _
        have HL1 := Lib.hid (LS.out.below hb1)
        have HCE := Lib.hid (show ∀ W', Below W1.heap.size W1 W' → W'.cell? ⟨wr.heap.size, 0, none⟩ = some (.int .i64 x.kd) ∧ W'.cell? ⟨wr.heap.size, 1, none⟩ = some (.int .i64 x.n) ∧ W'.cell? ⟨wr.heap.size, 2, none⟩ = some (.int .u16 (x.more : Nat)) ∧ W'.cell? ⟨wr.heap.size, 3, none⟩ = some (.slice x.A x.bs.length x.c) ∧ W'.cell? ⟨wr.heap.size, 4, none⟩ = some (.string x.nm) from fun W' hb => by
          have h := (hb.block _ (blk_lt hg)).trans hg
          exact ⟨cell_blk h 0, cell_blk h 1, cell_blk h 2, cell_blk h 3, cell_blk h 4⟩)
        have HWW := Lib.hid (show W1 = wr.alloc (.cells #[.int .i64 x.kd, .int .i64 x.n, .int .u16 (x.more : Nat), .slice x.A x.bs.length x.c, .string x.nm] 31) from hW1)
        have HOB := Lib.hid (obytes_any x W1 (hok.below LS.out.low |>.below hb1) hxs)
        rw [show Value.agg (opW x).toArray = .agg #[.int .i64 x.kd, .int .i64 x.n, .int .u16 (x.more : Nat), .slice x.A x.bs.length x.c, .string x.nm] from rfl] at HOB
        have hol := obytes_len x hxs
        obtain ⟨d0, d1, d2, d3, d4⟩ := HCE.out W1 (Below.refl _ _)
        have HIV := Lib.hid IV.out
        clear hc hxk hxs hok hb1 hg hW1 LS IV
        by_cases h2 : x.kd = 2
        · have h2' : (x.kd == (2 : Int)) = true := by rw [h2]; rfl
          have H2 := Lib.hid h2; clear h2
          obtain ⟨r1, r2⟩ := inv_roll HIV.out (by omega)
          have hro := HL1.out.roll
          rw [r1] at hro
          have HRO := Lib.hid hro; have HR2 := Lib.hid r2
          clear hro r1 r2
          go_wp2_with fail
          rw [← HWW.out]
          go_wp2_with fail
          with_reducible refine HRO.out.mono ?_
          rintro e w6 ⟨rfl, es6, L6⟩
          have HL6 := Lib.hid L6; clear L6
          go_wp2
          rcases HR2.out with ⟨hc0, hi⟩ | ⟨hc0, hi⟩
          · go_roundw
            case rel => exact ⟨k + 1, N, es6, _, ds, cc, _, by go_num, rfl, by omega, by omega, by omega, (show Aside _ from HNE.out), (show Aside _ from HL6.out), (show Aside _ from hi)⟩
            case measure => simp [intOf]; omega
          · have e9 : ((ds ++ [cc]).flatten ++ ([] : Ch)).length = (ds.flatten ++ cc).length := by simp
            go_roundw
            case rel => exact ⟨k + 1, N, es6, _, ds ++ [cc], [], _, by go_num, rfl, by omega, by omega, by rw [List.length_append]; simp; omega, (show Aside _ from HNE.out.trans e9.symm), (show Aside _ from HL6.out), (show Aside _ from hi)⟩
            case measure => simp [intOf]; omega
        · have h2' : (x.kd == (2 : Int)) = false := by simp [h2]
          have H2 := Lib.hid h2; clear h2
          go_wp2_with fail
          rw [← HWW.out]
          go_wp2_with fail
          with_reducible refine HOB.out.mono ?_
          rintro e w6 ⟨A6, c6, rfl, hr6, hb6⟩
          have HL6 := Lib.hid (HL1.out.below hb6)
          have hgc : g.2.2.1 ≤ 1000000000 := by rw [HIV.out.is]; simp only; rw [← HNE.out]; omega
          have HAP := Lib.hid (HL6.out.app A6 c6 (obytes x) hr6 (by omega) hgc)
          have hpw : g.1.Pairwise fun a b => a.1 ≠ b.1 := by rw [← HL6.out.is]; exact distinct (by rw [List.pairwise_map]; exact HL6.out.l.disk.srt)
          have hiv := inv_app HIV.out hpw 200000 (obytes x) (by omega) (by omega)
          have HIA := Lib.hid hiv
          clear hr6 hb6 hgc hpw hiv
          generalize wappP 200000 g (obytes x) = RA at HAP HIA
          obtain ⟨ra, ga⟩ := RA
          simp only at HAP HIA
          go_wp2_with fail
          with_reducible refine HAP.out.mono ?_
          rintro e w7 ⟨rfl, es7, L7⟩
          have HL7 := Lib.hid L7; clear L7
          rcases HIA.out with ⟨hne, rfl⟩ | ⟨rfl, ds7, cc7, j7, hi7, hf7, hl7⟩
          · have r0 : (ra == 0) = false := by simp [hne]
            go_wp2
            go_roundw
            case rel => exact ⟨k + 1, N, es7, _, ds, cc, j, by go_num, rfl, by omega, by omega, by omega, (show Aside _ from HNE.out), (show Aside _ from HL7.out), (show Aside _ from HIV.out)⟩
            case measure => simp [intOf]; omega
          · have e9 : (ds7.flatten ++ cc7).length = (ds.flatten ++ cc).length + 1 := by rw [hf7, List.length_append]; rfl
            have HI7 := Lib.hid hi7; have HE9 := Lib.hid e9
            obtain ⟨N2, hN2⟩ : ∃ N2, N2 = N + 1 := ⟨_, rfl⟩
            have q1 : IntKind.i64.wrap ((N : Int) + 1) = (N2 : Int) := by rw [IntWalk.i64_in _ (by omega)]; omega
            have q2 : (N : Int) + 1 = (N2 : Int) := by omega
            have HN2 := Lib.hid hN2
            clear hi7 hf7 e9 hN2
            go_wp2
            go_roundw
            case rel => exact ⟨k + 1, N2, es7, _, ds7, cc7, j7, by go_num, rfl, by omega, by have := HN2.out; omega, by omega, (show Aside _ from by rw [HN2.out, HNE.out]; exact HE9.out.symm), (show Aside _ from HL7.out), (show Aside _ from HI7.out)⟩
            case measure => simp [intOf]; omega
      · obtain rfl : k = l.length := by omega
        obtain ⟨ks, v1, v2, v3, v4, v5⟩ := inv_view IV.out
        have hkl : ks.flatten.length = N := by rw [v3, HNE.out]
        have hksl : ks.length ≤ N := by
          rw [← hkl, List.length_flatten]
          have : ∀ (L : List Ch), (∀ d ∈ L, d ≠ []) → L.length ≤ (L.map List.length).sum := fun L => by
            induction L with
            | nil => intro _; exact Nat.le_refl _
            | cons d r ih =>
              intro h
              have h1 := ih fun x hx => h x (List.mem_cons_of_mem _ hx)
              have h2 := List.length_pos_iff.2 (h d (List.mem_cons_self ..))
              rw [List.map_cons, List.sum_cons, List.length_cons]; omega
          exact this ks fun d hd => (v5 d hd).1
        have hsg := wsegs_any LS.out.l
        rw [LS.out.is, v1, List.length_range'] at hsg
        have HSG := Lib.hid hsg; have HLS := Lib.hid LS.out
        have hcn : g.2.2.1 = N := by rw [IV.out.is, HNE.out]
        have HV2 := Lib.hid v2; have HV5 := Lib.hid v5; have HKL := Lib.hid hkl; have HCN := Lib.hid hcn
        clear hsg LS IV v1 v2 v3 v5 hkl hcn
        go_wp2_with fail
        with_reducible refine HSG.out.mono ?_
        rintro e w6 ⟨A6, c6, rfl, hc6, hm6, hr6, hb6, -⟩
        unfold maxLen at hm6
        have HL6 := Lib.hid (HLS.out.below hb6); have HR6 := Lib.hid hr6
        clear hr6 hb6
        go_wp2
        go_loopw [11, 71] (fun s11 s71 w7 => ∃ k M : Nat, s71 = .int .i64 k ∧ s11 = .int .i64 M ∧ k ≤ ks.length ∧ Aside (M = (ks.take k).flatten.length) ∧ Aside (Below w6.heap.size w6 w7)) (fun _ s71 _ => ks.length - (intOf s71).toNat)
        case atStart => exact ⟨0, 0, rfl, rfl, by omega, (show 0 = (ks.take 0).flatten.length from by simp), Below.refl _ _⟩
        case round =>
          obtain ⟨t, M, rfl, rfl, ht, ME, BW⟩ := hrel
          have t0 : (0 : Int) ≤ (t : Int) := by omega
          by_cases htl : t < ks.length
          · have t1 : (t : Int) < (ks.length : Int) := by omega
            have t2 : (t : Int) ≤ (c6 : Int) := by omega
            obtain ⟨u1, u2⟩ := HV2.out t htl
            obtain ⟨n, hn⟩ : ∃ n, n = 1 + t := ⟨_, rfl⟩
            rw [← hn] at u1 u2
            obtain ⟨x1, x2, x3⟩ := HV5.out ks[t] (List.getElem_mem htl)
            obtain ⟨ab, ao, rfl, hac⟩ := rd_at HR6.out (k := t) (v := Ni n) (by rw [List.getElem?_map, List.getElem?_range' htl, hn]; simp)
            have l0 := hac wr BW.out
            unfold Ni at l0
            have hL7 := HL6.out.below BW.out
            have HTT := Lib.hid (fun (W' : World) (hb : Below wr.heap.size wr W') => title_any (n : Int) (by omega) (by omega) W' (hL7.l.below hb).tab.now)
            have hrd := fun (W' : World) (hb : Below wr.heap.size wr W') => read_bytes (hL7.l.disk.below hb) n (by rw [hL7.is]; exact u1)
            rw [hL7.is, u2] at hrd
            have hfit := bytes_fit (L := g.1) n
            rw [u2] at hfit
            have hfit2 : lenL g.1 ≤ 200000 := by rw [← hL7.is]; exact hL7.l.disk.fits.1
            have hal := allF_frames ks[t] x2
            have hdl : M + ks[t].length = (ks.take (t + 1)).flatten.length := by
              rw [List.take_succ_eq_append_getElem htl, List.flatten_append, List.length_append, ← ME.out]; simp
            have hdn : (ks.take (t + 1)).flatten.length ≤ N := by
              rw [← HKL.out]
              conv => rhs; rw [← List.take_append_drop (t + 1) ks, List.flatten_append, List.length_append]
              omega
            have hd0 : 0 < ks[t].length := List.length_pos_iff.2 x1
            have hMd : M + ks[t].length ≤ N := by rw [hdl]; exact hdn
            obtain ⟨d, hd⟩ : ∃ d, d = ks[t] := ⟨_, rfl⟩
            rw [← hd] at hrd hfit hal hdl hd0 x3 hMd
            obtain ⟨fr, hfr⟩ : ∃ fr, fr = framesF d := ⟨_, rfl⟩
            rw [← hfr] at hrd hfit hal x3
            have HRD := Lib.hid hrd; have HAL := Lib.hid hal; have HDL := Lib.hid hdl
            have HB7 := Lib.hid BW.out
            clear hac hL7 hrd hal BW u1 u2 x1 x2 ME hd hfr hn hdl hdn
            go_wp2_with fail
            with_reducible refine (HTT.out wr (Below.refl _ _)).mono ?_
            rintro e w8 ⟨rfl, hb8⟩
            have HB8 := Lib.hid (HB7.out.trans (hb8.mono HB7.out.size)); have HRD8 := Lib.hid (HRD.out w8 hb8)
            clear hb8
            go_wp2_with fail
            with_reducible refine HRD8.out.mono ?_
            rintro e w9 ⟨A9, c9, rfl, ho9, hc9, hm9, hb9⟩
            unfold maxLen at hm9
            obtain ⟨A9', c9', e9, hr9, -⟩ := own_bytes ho9
            injection e9 with e9 _ e10
            subst e9; subst e10
            have hra := rall_any A9 c9 fr w9 hr9 hc9 (by omega) (by omega)
            rw [HAL.out] at hra
            have HRA := Lib.hid hra; have HB9 := Lib.hid (HB8.out.trans (hb9.mono HB8.out.size))
            clear ho9 hr9 hb9 hra
            go_wp2_with fail
            with_reducible refine HRA.out.mono ?_
            rintro e wa ⟨v, P, rfl, hP, hPm, hba⟩
            try simp only at hPm
            have hPl : P.length = d.length := by rw [← hPm, List.length_map]
            obtain ⟨Av2, cv2, rfl, -⟩ := own_rd hP.1
            have HBA := Lib.hid (HB9.out.trans (hba.mono HB9.out.size))
            clear hP hba hPm
            have p0 : ((P.length : Int) == 0) = false := by rw [beq_eq_false_iff_ne]; omega
            have f0 : ((fr.length : Int) != (fr.length : Int)) = false := by simp
            obtain ⟨M2, hM2⟩ : ∃ M2, M2 = M + P.length := ⟨_, rfl⟩
            have q1 : IntKind.i64.wrap ((M : Int) + (P.length : Int)) = (M2 : Int) := by rw [IntWalk.i64_in _ (by omega)]; omega
            have q2 : (M : Int) + (P.length : Int) = (M2 : Int) := by omega
            have q3 : wrap64 (M2 : Int) = (M2 : Int) := by unfold wrap64; omega
            have HM2 := Lib.hid hM2; have HPL := Lib.hid hPl
            by_cases h1 : 1 < P.length
            · have p1 : (1 : Int) < (P.length : Int) := by omega
              have p2 : ¬ (4096 : Int) < (fr.length : Int) := by have := x3 (by omega); omega
              clear hM2 hPl x3 h1
              go_wp2
              go_roundw
              case rel => exact ⟨t + 1, M2, by go_num, (by first | rfl | rw [q3]), by omega, (show Aside _ from by rw [HM2.out, HPL.out]; exact HDL.out), (show Aside _ from HBA.out)⟩
              case measure => simp [intOf]; omega
            · have p1 : ¬ (1 : Int) < (P.length : Int) := by omega
              clear hM2 hPl x3 h1
              go_wp2
              go_roundw
              case rel => exact ⟨t + 1, M2, by go_num, (by first | rfl | rw [q3]), by omega, (show Aside _ from by rw [HM2.out, HPL.out]; exact HDL.out), (show Aside _ from HBA.out)⟩
              case measure => simp [intOf]; omega
          · obtain rfl : t = ks.length := by omega
            have hmn : M = N := by rw [ME.out, List.take_length]; exact HKL.out
            subst hmn
            have HB7 := Lib.hid BW.out
            have HCO := Lib.hid (wcount_any (HL6.out.below BW.out).l)
            rw [HCN.out] at HCO
            have HFN := Lib.hid (HL6.out.below BW.out).low
            clear ME BW
            go_wp2_with fail
            with_reducible refine HCO.out.mono ?_
            rintro e wb ⟨rfl, rfl⟩
            go_wp2
            go_ret
            exact ⟨rfl, HFN.out⟩
end

set_option maxRecDepth 100000 in
theorem walRolls_contract (H : Type) (enc : TypeId × Value → H) (W : World) (base : Nat) (args : Array Value) (ds gs : List (DataW H)) (before : List MemPlace)
    (hval : ∀ (j : Nat) t v, Tryz.f6.params[j]? = some t → args[j]? = some v → Value.okWide Tryz.prog W .any base t v)
    (hW : DataW.Whole enc Tryz.prog Tryz.f6.params.toList Rows.walRollsSpec.vars false W args.toList ds gs before) (hL : laidMetH Tryz.prog Rows.walRollsRow.laid W) :
    Calls Tryz.prog 6 args W fun e W' => ∃ v, e = .returned v ∧ Rows.walRollsSpec.post enc Tryz.prog Tryz.f6 false true false false W args v W' := by
  have hW' := hW
  have hT : TabW W := wtables hL
  obtain ⟨p, q, hA0, hV, rfl, hfz, hnd⟩ := hW
  have hA : DataW.TrodAll enc Tryz.prog W 0 (fun _ => true) true Tryz.f6.params.toList args.toList ds p := hA0
  rw [Tryz.params6] at hA hval
  obtain ⟨v0, vs0, d0, ds0, p0, q0, hargs, rfl, rfl, h0, r0⟩ := trodAll_cons hA
  obtain ⟨rfl, rfl, rfl⟩ := trodAll_nil r0
  obtain rfl : args = #[v0] := by cases args; simp_all
  obtain ⟨rfl, rfl⟩ := trodVars_none hV
  obtain ⟨A0, c0, l0, rfl, hm0, hx0, ho0⟩ := open_ops (hval 0 22 v0 rfl rfl) h0
  clear hA0 hA
  unfold maxLen at hm0
  refine (walRolls_walk A0 c0 l0 W hT hx0 hm0.1 hm0.2 ho0).mono fun e W' ⟨he, hg⟩ => ?_
  subst he
  exact ⟨_, rfl, law_end laidOut (by kernel_rfl) (by kernel_rfl) Tryz.underlying4 rfl hW' ⟨rfl, rfl, rfl⟩ hg⟩

theorem walRolls_met (os : Os) : laidMet Tryz.prog Rows.walRollsRow.laid ((wworld os).forCall (fun _ _ => 0) ⟨#[], #[.slice none 0 0], []⟩).memory := wworld_met os _
theorem walRolls_reads (os : Os) {H : Type} (enc : TypeId × Value → H) : ∃ places, DataW.whole enc Tryz.prog ((wworld os).forCall (fun _ _ => 0) ⟨#[], #[.slice none 0 0], []⟩).memory Tryz.f6.params.toList Rows.walRollsSpec.vars false (#[.slice none 0 0] : Array Value).toList 8 = some ([.nil], [], places) :=
  ⟨[], by kernel_rfl⟩

set_option maxRecDepth 100000 in
theorem walRolls_lifted (os : Os) (started : os.Started) (H : Type) (enc : TypeId × Value → H) (F : Stop.Interp) :
    ReturnsInHanded {} Tryz.checked os 6 .any ((OpenSpec.ofChange Rows.walRollsSpec).preRow enc Tryz.prog Tryz.f6 Rows.walRollsRow.domain false Rows.walRollsRow.laid) (((OpenSpec.ofChange Rows.walRollsSpec).at F).post enc Tryz.prog Tryz.f6 false true false false) := by
  obtain ⟨places, hx⟩ := walRolls_reads os enc
  refine returnsInHanded_of_row (C := Tryz.checked) (s := OpenSpec.ofChange Rows.walRollsSpec) ownKn started (by kernel_rfl) Tryz.func6
    (witness_row_atRef (enc := enc) (C := Tryz.checked) false (wworld os) #[.slice none 0 0] (World.laidAll_os _ _ _) (by kernel_rfl) (by kernel_rfl) (by kernel_rfl)
      (OpenSpec.preRow_of_cond 8 hx (by kernel_rfl) (fun k hk => by cases hk) (by kernel_rfl) (walRolls_met os))) ?_
  intro W base args ds gs before hval hW _ _ _ hL _ _
  exact walRolls_contract H enc W base args ds gs before hval hW hL

theorem walRolls_said : Rows.WalRollsSaid :=
  OpenClaim.holds_of_cond 6 Tryz.f6 rfl rfl rfl rfl rfl rfl rfl ⟨rfl, rfl, rfl, rfl, rfl⟩ rfl rfl rfl rfl rfl (by kernel_rfl) Tryz.func6 (by kernel_rfl)
    (of_decide_eq_true (by kernel_rfl)) (by unfold Func.isWrapper; first | (rw [if_pos (by decide +kernel)]; kernel_rfl) | (rw [if_neg (by decide +kernel)]; exact ⟨rfl, rfl⟩))
    (fun os started H enc _ F => by rw [OpenClaim.pre_eq_preRow]; exact walRolls_lifted os started H enc F)

theorem walRolls_plain (f : FuncId) (fn : Func) (hf : Tryz.pinned.checked.prog.funcNamed "manometer/manometerlaw12.WalRolls" = some f) (hfn : Tryz.pinned.checked.prog.funcs[f]? = some fn) :
    true = Tryz.pinned.checked.prog.looks [] ∧ ∀ (j : Nat) t, fn.params[j]? = some t → Tryz.pinned.checked.prog.wantsStandIn t = false := by
  obtain rfl : f = 6 := Option.some.inj ((show Tryz.prog.funcNamed "manometer/manometerlaw12.WalRolls" = some 6 by kernel_rfl).symm.trans hf) |>.symm
  obtain rfl : fn = Tryz.f6 := (Option.some.inj (Tryz.func6.symm.trans hfn)).symm
  refine ⟨by kernel_rfl, fun j t ht => ?_⟩
  rw [Tryz.params6] at ht
  have hm : t = 22 := by simpa using Array.mem_of_getElem? ht
  rcases hm with rfl
  · exact (show Tryz.prog.wantsStandIn 22 = false by kernel_rfl)

theorem walRolls_card : Rows.WalRollsCardSaid :=
  Claim7.holds_tied_plain_at .later [] _ _ _ _ walRolls_said (fun _ h => by cases h) (by kernel_rfl) (fun _ h => by cases h) walRolls_row_tie rfl ⟨rfl, rfl⟩ (by kernel_rfl) rfl walRolls_plain (by kernel_rfl)
#print axioms walRolls_card

end Go.Proofs.YtnmbjhpecblioaaGreatDoor
