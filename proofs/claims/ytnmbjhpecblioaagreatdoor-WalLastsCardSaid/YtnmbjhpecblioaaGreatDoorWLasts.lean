/-
  WalLasts (P12.4): behind a crash, opened again, a log has a beginning of its records, all that was sure among them. The condition is the tables' and the library's two errors': they hold what their initialisers lay, which the card ties to the program's text.
-/
import Derived.Maps.AppendAt
import Derived.Test.YtnmbjhpecblioaaGreatDoorWv
import Derived.Test.YtnmbjhpecblioaaGreatDoorWi
import Derived.Test.YtnmbjhpecblioaaGreatDoorWby
import Derived.Test.YtnmbjhpecblioaaGreatDoorWl
import Derived.Test.YtnmbjhpecblioaaGreatDoorWc
import Derived.Test.YtnmbjhpecblioaaGreatDoorWtx
namespace Go.Proofs.YtnmbjhpecblioaaGreatDoor
set_option linter.unusedVariables false
set_option linter.unusedSimpArgs false
open Go.ChangeShapes Go.WideShapes Go.ChangeAt Go.RowKit
section
set_option maxHeartbeats 3200000
set_option maxRecDepth 100000
theorem walLasts_walk (A : Option Addr) (c : Nat) (l : List OpW) (keep : Int) (hk9 : -9223372036854775808 ≤ keep ∧ keep ≤ 9223372036854775807) (W : World) (hT : TabW W) (hx : Rd W A (l.flatMap opW)) (hlc : l.length ≤ c) (hcm : c ≤ 9223372036854775807) (hz : ∀ o ∈ l, OpWOk W o) :
    Calls Tryz.prog 5 #[.slice A l.length c, .int .i64 keep] W fun e w' => e = .returned (.bool true) ∧ Below W.heap.size W w' := by
  have HX := Lib.hid hx; have HZ := Lib.hid hz; have HT := Lib.hid hT
  clear hx hz hT
  go_enter Tryz.func5, Tryz.ntmps5
  go_wp2_with fail
  with_reducible refine (wlive_any W HT.out).mono ?_
  rintro e w1 ⟨rfl, hb1⟩
  have HB1 := Lib.hid hb1; clear hb1
  go_wp2_with fail
  with_reducible refine (wfew_any A c l w1 (HX.out.below HB1.out) hlc (fun o ho => (HZ.out o ho).below HB1.out) hcm).mono ?_
  rintro e w2 ⟨F, rfl, hF, hb2⟩
  have HB2 := Lib.hid (HB1.out.trans (hb2.mono HB1.out.size)); have HF := Lib.hid hF
  clear hb2 hF HB1
  cases F with
  | false =>
    go_wp2_with fail
    with_reducible refine (wlive_any w2 (HT.out.below HB2.out)).mono ?_
    rintro e w3 ⟨rfl, hb3⟩
    have HB3 := Lib.hid (HB2.out.trans (hb3.mono HB2.out.size)); clear hb3
    go_wp2
    go_ret
    exact ⟨rfl, HB3.out⟩
  | true =>
    obtain ⟨hl40, hbs⟩ := HF.out rfl
    have HBS := Lib.hid hbs; clear hbs HF
    go_wp2_with fail
    with_reducible refine (dnew_any 60000 w2 (by decide)).mono ?_
    rintro e w3 ⟨rfl, D1, hb3⟩
    rw [show Int.toNat 60000 = 60000 from rfl] at D1
    obtain ⟨db, hdb⟩ : ∃ db, db = w2.heap.size + 1 := ⟨_, rfl⟩
    obtain ⟨mb, hmb⟩ : ∃ mb, mb = w2.heap.size := ⟨_, rfl⟩
    rw [← hdb] at D1 ⊢
    have hs2 := HB2.out.size
    have HS1 := Lib.hid (show DiskS W w3 db mb 60000 [] [] from ⟨by rw [hmb]; exact D1, (fun f hf => by simp at hf), rfl, (fun k hk => by
      rcases hk with h | h | ⟨e, he, _⟩
      · omega
      · omega
      · simp at he), HB2.out.trans (hb3.mono hs2), HT.out⟩)
    clear D1 hb3 hdb hmb hs2
    go_wp2_with fail
    with_reducible refine HS1.out.open.mono ?_
    intro e w4 hO
    obtain ⟨lb, v, P, es4, rfl, hP, hx4, hL, -, -⟩ := HS1.out.opened hO (fun h => absurd h.1 (by decide)) (x := []) (cut := none) (by rw [show segsW [] = [] from rfl, openR])
    have hP0 : P = [] := by simpa using hx4
    subst hP0
    obtain ⟨Av, cv, rfl, -⟩ := own_rd hP.1
    rw [show (cutW [] (lastW (segsW [])) none, lastW (segsW []), ([] : List (List UInt8)).length, ([] : List (List UInt8)).length) = (([], 1, 0, 0) : Lg) from rfl] at hL
    have HL := Lib.hid hL
    clear hO hP hx4 hL HS1
    go_wp2
    obtain ⟨i0, hi, hz0, hz1, hz2⟩ := info_parts infoBytes
    go_loopw [10, 49] (fun v si wr => ∃ (k : Nat) (P : List (Option Addr × Nat × List UInt8)) (es : List Ent) (g : Lg) (ds : List Ch) (cc : Ch) (j : Nat), (∃ A' n' c', v = .slice A' n' c') ∧ si = .int .i64 k ∧ k ≤ l.length ∧ P.length ≤ k ∧ ds.length ≤ k ∧ Aside (P.map (·.2.2) = ds.flatten ++ cc) ∧ Aside (∀ p ∈ P, p.2.2.length ≤ 3500) ∧ Aside (AllS wr lb db mb es W.heap.size v P) ∧ Aside (LogS W wr lb db mb 60000 es g) ∧ Aside (Inv g ds cc j)) (fun _ si _ => l.length - (intOf si).toNat)
    case atStart => exact ⟨0, [], es4, _, [], [], 0, ⟨_, _, _, rfl⟩, rfl, by omega, by simp, by simp, rfl, (fun p hp => by cases hp), ⟨⟨World.ownsRow_nil _ _ _ _, fun p hp => by cases hp⟩, (fun k hk => by cases hk), fun p hp => by cases hp⟩, HL.out, inv_new⟩
    case round =>
      clear HL
      obtain ⟨k, P, es, g, ds, cc, j, ⟨Av9, nv9, cv9, rfl⟩, rfl, hk, hn1, hn2, PM, PZ, AS, LS, IV⟩ := hrel
      have HPM := Lib.hid PM.out; have HPZ := Lib.hid PZ.out
      have HNE := Lib.hid (show P.length = (ds.flatten ++ cc).length from by rw [← PM.out, List.length_map])
      clear PM PZ
      have k0 : (0 : Int) ≤ (k : Int) := by omega
      by_cases hlt : k < l.length
      · have k1 : (k : Int) < (l.length : Int) := by omega
        obtain ⟨x, hxk⟩ : ∃ x, l[k]? = some x := ⟨_, List.getElem?_eq_getElem (by omega)⟩
        obtain ⟨b, off, rfl, hc⟩ := (HX.out.below LS.out.low).flat opW_len (by decide) hxk
        have c0 := hc 0 _ rfl; have c1 := hc 1 _ rfl; have c2 := hc 2 _ rfl; have c3 := hc 3 _ rfl; have c4 := hc 4 _ rfl
        rw [Nat.add_zero] at c0
        have hxs := HBS.out x (List.mem_of_getElem? hxk)
        have hok := HZ.out x (List.mem_of_getElem? hxk)
        obtain ⟨W1, hW1⟩ : ∃ W1, W1 = wr.alloc (.cells (opW x).toArray 31) := ⟨_, rfl⟩
        have hb1 : Below wr.heap.size wr W1 := by rw [hW1]; exact (Below.refl _ wr).alloc (Nat.le_refl _) _
        have hg : W1.heap[wr.heap.size]? = some (.cells (opW x).toArray 31 (0, 0)) := by rw [hW1]; exact heap_alloc_new wr _
        have HL1 := Lib.hid (LS.out.below hb1)
        have HCE := Lib.hid (show ∀ W', Below W1.heap.size W1 W' → W'.cell? ⟨wr.heap.size, 0, none⟩ = some (.int .i64 x.kd) ∧ W'.cell? ⟨wr.heap.size, 1, none⟩ = some (.int .i64 x.n) ∧ W'.cell? ⟨wr.heap.size, 2, none⟩ = some (.int .u16 (x.more : Nat)) ∧ W'.cell? ⟨wr.heap.size, 3, none⟩ = some (.slice x.A x.bs.length x.c) ∧ W'.cell? ⟨wr.heap.size, 4, none⟩ = some (.string x.nm) from fun W' hb => by
          have h := (hb.block _ (blk_lt hg)).trans hg
          exact ⟨cell_blk h 0, cell_blk h 1, cell_blk h 2, cell_blk h 3, cell_blk h 4⟩)
        have HWW := Lib.hid (show W1 = wr.alloc (.cells #[.int .i64 x.kd, .int .i64 x.n, .int .u16 (x.more : Nat), .slice x.A x.bs.length x.c, .string x.nm] 31) from hW1)
        have HAGG := Lib.hid (show Value.agg (opW x).toArray = .agg #[.int .i64 x.kd, .int .i64 x.n, .int .u16 (x.more : Nat), .slice x.A x.bs.length x.c, .string x.nm] from rfl)
        have HOB := Lib.hid (fun (W' : World) (hb : Below W.heap.size W W') => obytes_own x W' (hok.below hb) hxs)
        rw [HAGG.out] at HOB
        have HNB := Lib.hid (show ¬ footW lb db mb es wr.heap.size from fun hf => by have := LS.out.l.lt hf; omega)
        have HG := Lib.hid hg
        have HCX := Lib.hid (show ∀ W' : World, W'.heap[wr.heap.size]? = some (.cells (opW x).toArray 31 (0, 0)) → W'.cell? ⟨wr.heap.size, 0, none⟩ = some (.int .i64 x.kd) ∧ W'.cell? ⟨wr.heap.size, 1, none⟩ = some (.int .i64 x.n) ∧ W'.cell? ⟨wr.heap.size, 2, none⟩ = some (.int .u16 (x.more : Nat)) ∧ W'.cell? ⟨wr.heap.size, 3, none⟩ = some (.slice x.A x.bs.length x.c) ∧ W'.cell? ⟨wr.heap.size, 4, none⟩ = some (.string x.nm) from fun W' h => ⟨cell_blk h 0, cell_blk h 1, cell_blk h 2, cell_blk h 3, cell_blk h 4⟩)
        have HAS1 := Lib.hid (AS.out.below hb1)
        have hol := obytes_len x hxs
        obtain ⟨d0, d1, d2, d3, d4⟩ := HCE.out W1 (Below.refl _ _)
        have HIV := Lib.hid IV.out
        clear hc hxk hxs hok hb1 hg hW1 LS IV AS
        by_cases h0 : x.kd = 0
        · have h0' : (x.kd == (0 : Int)) = true := by rw [h0]; rfl
          have H0 := Lib.hid h0; clear h0
          go_wp2_with fail
          rw [← HWW.out]
          go_wp2_with fail
          with_reducible refine (HOB.out W1 HL1.out.low).mono ?_
          rintro e w6 ⟨A6, c6, rfl, ho6, hb6⟩
          obtain ⟨A6', c6', e6, hr6, -⟩ := own_bytes ho6
          injection e6 with e6 _ e7
          subst e6; subst e7
          have HL6 := Lib.hid (HL1.out.below hb6); have HAS6 := Lib.hid (HAS1.out.below hb6)
          have hgc : g.2.2.1 ≤ 1000000000 := by rw [HIV.out.is]; simp only; rw [← HNE.out]; omega
          have HAP := Lib.hid (HL6.out.app2 A6 c6 (obytes x) hr6 (by omega) hgc)
          have hpw : g.1.Pairwise fun a b => a.1 ≠ b.1 := by rw [← HL6.out.is]; exact distinct (by rw [List.pairwise_map]; exact HL6.out.l.disk.srt)
          have hiv := inv_app HIV.out hpw 60000 (obytes x) (by omega) (by omega)
          have HIA := Lib.hid hiv
          have HG6 := Lib.hid ((hb6.block _ (blk_lt HG.out)).trans HG.out)
          clear ho6 hr6 hb6 hgc hpw hiv
          generalize wappP 60000 g (obytes x) = RA at HAP HIA
          obtain ⟨ra, ga⟩ := RA
          simp only at HAP HIA
          go_wp2_with fail
          with_reducible refine HAP.out.mono ?_
          rintro e w7 ⟨rfl, es7, L7, s7⟩
          have HL7 := Lib.hid L7; have HAS7 := Lib.hid (HAS6.out.steps s7)
          have HG7 := Lib.hid ((s7.1.block _ (blk_lt HG6.out) HNB.out).trans HG6.out)
          obtain ⟨d0, d1, d2, d3, d4⟩ := HCX.out w7 HG7.out
          clear L7 s7
          rcases HIA.out with ⟨hne, rfl⟩ | ⟨rfl, ds7, cc7, j7, hi7, hf7, hl7⟩
          · have r0 : (ra == 0) = false := by simp [hne]
            go_wp2
            go_roundw
            case rel => exact ⟨k + 1, P, es7, _, ds, cc, j, ⟨_, _, _, rfl⟩, by go_num, by omega, by omega, by omega, (show Aside _ from HPM.out), (show Aside _ from HPZ.out), (show Aside _ from HAS7.out), (show Aside _ from HL7.out), (show Aside _ from HIV.out)⟩
            case measure => simp [intOf]; omega
          · have HI7 := Lib.hid hi7; have HF7 := Lib.hid hf7
            have HOB7 := Lib.hid (HOB.out w7 HL7.out.low)
            clear hi7 hf7
            go_wp2_with fail
            with_reducible refine HOB7.out.mono ?_
            rintro e w8 ⟨A8, c8, rfl, ho8, hb8⟩
            have HL8 := Lib.hid (HL7.out.below hb8); have HAS8 := Lib.hid (HAS7.out.below hb8)
            have HO8 := Lib.hid (ho8.lower HL7.out.low.size)
            have HOF8 := Lib.hid (show ∀ k, (partV (A8, c8, obytes x)).ownBlock = some k → ¬ footW lb db mb es7 k from fun k hk hf => by have h1 := (ho8.lt k hk).1; have h2 := HL7.out.l.lt hf; omega)
            have HZ8 := Lib.hid HL8.out.low.size
            have hb9 := (Below.refl _ w8).alloc (Nat.le_refl _) (.cells #[.slice A8 (obytes x).length c8] 29)
            have HL9 := Lib.hid (HL8.out.below hb9); have HAS9 := Lib.hid (HAS8.out.below hb9); have HO9 := Lib.hid (own_moved HO8.out fun k hk => hb9.block k (HO8.out.lt k hk).2)
            clear ho8 hb8 hb9
            go_wp2_with (first
              | (at_builtin; go_must (refine wpList_append_own_at _ rfl _ _ 35 rfl W.heap.size 29 i0 (.slice none 0 0) 1 24 Tryz.underlying35 hi hz0 hz1 hz2 rfl (by decide) _ P.length (P.map partV) rfl HAS9.out.a.1 ⟨w8.heap.size, 0, none⟩ 1 1 [.slice A8 (obytes x).length c8] rfl rfl (World.news_of_block (heap_alloc_new _ _)) (by simp [Value.oneCell']) (by unfold maxLen; omega) (by omega) (by have := HZ8.out; simp; omega) ?_; intro v3 w9 own3 grow3 _ hv3))
              | fail)
            have hA9 := HAS9.out.snoc (p := (A8, c8, obytes x)) HO9.out HOF8.out (fun k hf => HL9.out.l.lt hf) own3 grow3 hv3
            have hL10 : LogS W w9 lb db mb 60000 es7 ga := HL9.out.grown HT.out grow3 HAS9.out.list (fun k hk => (HAS9.out.a.1.lt k hk).1)
            have HA10 := Lib.hid hA9; have HL10 := Lib.hid hL10
            have HPM9 := Lib.hid (show (P ++ [(A8, c8, obytes x)]).map (·.2.2) = ds7.flatten ++ cc7 from by rw [List.map_append, HPM.out, HF7.out]; rfl)
            have HPZ9 := Lib.hid (show ∀ p ∈ P ++ [(A8, c8, obytes x)], p.2.2.length ≤ 3500 from fun p hp => by
              rcases List.mem_append.1 hp with hp | hp
              · exact HPZ.out p hp
              · rw [List.mem_singleton] at hp; rw [hp]; exact hol)
            obtain ⟨A10, c10, rfl, -⟩ := own_rd hA9.a.1
            clear own3 grow3 hv3 hA9 hL10
            go_wp2
            go_roundw
            case rel => exact ⟨k + 1, P ++ [(A8, c8, obytes x)], es7, _, ds7, cc7, j7, ⟨_, _, _, rfl⟩, by go_num, by omega, by rw [List.length_append, List.length_singleton]; omega, by omega, (show Aside _ from HPM9.out), (show Aside _ from HPZ9.out), (show Aside _ from HA10.out), (show Aside _ from HL10.out), (show Aside _ from HI7.out)⟩
            case measure => simp [intOf]; omega
        · have h0' : (x.kd == (0 : Int)) = false := by simp [h0]
          have H0 := Lib.hid h0; clear h0
          by_cases h1 : x.kd = 1
          · have h1' : (x.kd == (1 : Int)) = true := by rw [h1]; rfl
            have H1 := Lib.hid h1; clear h1
            have hsy := HL1.out.sync2
            have hi6 := inv_sync HIV.out
            have HSY := Lib.hid hsy; have HI6 := Lib.hid hi6
            clear hsy hi6
            go_wp2_with fail
            rw [← HWW.out]
            go_wp2_with fail
            with_reducible refine HSY.out.mono ?_
            rintro e w6 ⟨rfl, es6, L6, s6⟩
            have HL6 := Lib.hid L6; have HAS6 := Lib.hid (HAS1.out.steps s6); clear L6 s6
            go_wp2
            go_roundw
            case rel => exact ⟨k + 1, P, es6, _, ds, cc, _, ⟨_, _, _, rfl⟩, by go_num, by omega, by omega, by omega, (show Aside _ from HPM.out), (show Aside _ from HPZ.out), (show Aside _ from HAS6.out), (show Aside _ from HL6.out), (show Aside _ from HI6.out)⟩
            case measure => simp [intOf]; omega
          · have h1' : (x.kd == (1 : Int)) = false := by simp [h1]
            have H1 := Lib.hid h1; clear h1
            by_cases h2 : x.kd = 2
            · have h2' : (x.kd == (2 : Int)) = true := by rw [h2]; rfl
              have H2 := Lib.hid h2; clear h2
              obtain ⟨r1, r2⟩ := inv_roll HIV.out (by omega)
              have hro := HL1.out.roll2
              rw [r1] at hro
              have HRO := Lib.hid hro; have HR2 := Lib.hid r2
              clear hro r1 r2
              go_wp2_with fail
              rw [← HWW.out]
              go_wp2_with fail
              with_reducible refine HRO.out.mono ?_
              rintro e w6 ⟨rfl, es6, L6, s6⟩
              have HL6 := Lib.hid L6; have HAS6 := Lib.hid (HAS1.out.steps s6); clear L6 s6
              go_wp2
              rcases HR2.out with ⟨hc0, hi6⟩ | ⟨hc0, hi6⟩
              · go_roundw
                case rel => exact ⟨k + 1, P, es6, _, ds, cc, _, ⟨_, _, _, rfl⟩, by go_num, by omega, by omega, by omega, (show Aside _ from HPM.out), (show Aside _ from HPZ.out), (show Aside _ from HAS6.out), (show Aside _ from HL6.out), (show Aside _ from hi6)⟩
                case measure => simp [intOf]; omega
              · have e9 : (ds ++ [cc]).flatten ++ ([] : Ch) = ds.flatten ++ cc := by simp
                go_roundw
                case rel => exact ⟨k + 1, P, es6, _, ds ++ [cc], [], _, ⟨_, _, _, rfl⟩, by go_num, by omega, by omega, by rw [List.length_append]; simp; omega, (show Aside _ from HPM.out.trans e9.symm), (show Aside _ from HPZ.out), (show Aside _ from HAS6.out), (show Aside _ from HL6.out), (show Aside _ from hi6)⟩
                case measure => simp [intOf]; omega
            · have h2' : (x.kd == (2 : Int)) = false := by simp [h2]
              have H2 := Lib.hid h2; clear h2
              go_wp2_with fail
              rw [← HWW.out]
              go_wp2
              go_roundw
              case rel => exact ⟨k + 1, P, es, _, ds, cc, _, ⟨_, _, _, rfl⟩, by go_num, by omega, by omega, by omega, (show Aside _ from HPM.out), (show Aside _ from HPZ.out), (show Aside _ from HAS1.out), (show Aside _ from HL1.out), (show Aside _ from HIV.out)⟩
              case measure => simp [intOf]; omega
      · obtain rfl : k = l.length := by omega
        obtain ⟨cv1, x, post, cut, cv2, cv3, cv4⟩ := crash_view IV.out keep
        have hcr := LS.out.crash2 keep
        have hsu := wsure_any LS.out.l
        obtain ⟨su, hsue⟩ : ∃ su, su = g.2.2.2 := ⟨_, rfl⟩
        rw [← hsue] at hsu cv4
        have hcn : g.2.2.1 = P.length := by rw [IV.out.is]; exact HNE.out.symm
        have HCR := Lib.hid hcr; have HSU := Lib.hid hsu; have HAS := Lib.hid AS.out; have HGAP := Lib.hid cv1; have HOR := Lib.hid cv2; have HCN := Lib.hid hcn; have HGE := Lib.hid cv4
        have HDV4 := Lib.hid (show P.map (·.2.2) = x ++ post from by rw [HPM.out, cv3])
        clear hcr hsu AS LS IV cv1 cv2 cv3 cv4 hsue hcn
        go_wp2_with fail
        with_reducible refine HSU.out.mono ?_
        rintro e w5 ⟨rfl, rfl⟩
        go_wp2_with fail
        with_reducible refine HCR.out.mono ?_
        rintro e w6 ⟨rfl, es6, L6, s6⟩
        have HL6 := Lib.hid L6; have HAS6 := Lib.hid (HAS.out.steps s6)
        have HD6 := Lib.hid (L6.disk HT.out)
        clear L6 s6
        go_wp2_with fail
        with_reducible refine HD6.out.open.mono ?_
        intro e w8 hO
        obtain ⟨lb2, v8, P8, es8, rfl, hP8, hx8, hL8, hm8, hf8⟩ := HD6.out.opened hO HGAP.out HOR.out
        have HAS8 := Lib.hid (HAS6.out.steps (w' := w8) (es' := es8) ⟨hm8.mono (fun k _ h => .inr h), hf8⟩)
        have hlo := HL6.out.other hL8.l.disk hL8.l.named hm8 hf8
        have hco := wcount_any hlo.l
        simp only at hco
        rw [HCN.out] at hco
        have hl1 : P8.length = x.length := by have := congrArg List.length hx8; rwa [List.length_map] at this
        have hl2 : P.length = x.length + post.length := by have := congrArg List.length HDV4.out; rwa [List.length_map, List.length_append] at this
        have hge := HGE.out
        have HL8 := Lib.hid hL8
        have HCO := Lib.hid hco; have HLO := Lib.hid hlo
        obtain ⟨A8, c8, rfl, hr8, -, hc8, hm8c⟩ := own_rd hP8.1
        have hq8 := (AllIs.rd hP8).2
        obtain ⟨A9, c9, e9, hr9, -, hc9, hm9c⟩ := own_rd HAS8.out.a.1
        injection e9 with e9 e10 e11
        subst e9; subst e10; subst e11
        have hq9 := (AllIs.rd HAS8.out.a).2
        unfold maxLen at hm9c hm8c
        have k1 : (P8.length : Int) ≤ (P.length : Int) := by omega
        have k2 : (P8.length : Int) ≤ (cv9 : Int) := by omega
        have k3 : (su : Int) ≤ (P8.length : Int) := by omega
        have k4 : (0 : Int) ≤ (P8.length : Int) := by omega
        have eqc : ((P.length : Int) == (P.length : Int)) = true := by simp
        have eq8 : ((P8.length : Int) == (P8.length : Int)) = true := by simp
        have hmm : P8.map (·.2.2) = (P.take P8.length).map (·.2.2) := by rw [List.map_take, HDV4.out, hx8, hl1, List.take_left]
        have hps : ∀ p ∈ P8, p.2.2.length ≤ 9223372036854775807 := fun p hp => by
          have h1 : p.2.2 ∈ (P.take P8.length).map (·.2.2) := by rw [← hmm]; exact List.mem_map.2 ⟨p, hp, rfl⟩
          obtain ⟨q, hq, e⟩ := List.mem_map.1 h1
          rw [← e]
          have := HPZ.out q (List.mem_of_mem_take hq); omega
        have htl : (P.take P8.length).length = P8.length := by rw [List.length_take]; omega
        have hrd9 : Rd w8 Av9 ((P.take P8.length).map partV) := by rw [List.map_take]; exact hr9.take P8.length
        have HTX := Lib.hid (texts_len A8 Av9 c8 cv9 P8.length P8 (P.take P8.length) w8 htl hmm hr8 hrd9 hq8 (fun p hp => hq9 p (List.mem_of_mem_take hp)) (by omega) hps)
        have HC8 := Lib.hid (fun q => (wcount_any (hL8.below (below_drewN (Below.refl _ _) q)).l))
        have HS8 := Lib.hid (fun q => (wsure_any (hL8.below (below_drewN (Below.refl _ _) q)).l))
        simp only at HC8 HS8
        rw [← hl1] at HC8 HS8
        clear hO hP8 hx8 hL8 hm8 hf8 hlo hco hr8 hq8 hr9 hq9 hl2 hmm hps hge htl hrd9 hl1
        go_wp2_with fail
        with_reducible refine HCO.out.mono ?_
        rintro e wa ⟨rfl, rfl⟩
        cases Av9 with
        | none => 
          go_wp2_with fail
          with_reducible refine HTX.out.mono ?_
          rintro e wb ⟨rfl, q, rfl⟩
          go_wp2_with fail
          with_reducible refine (HC8.out q).mono ?_
          rintro e wc ⟨rfl, rfl⟩
          go_wp2_with fail
          with_reducible refine (HS8.out q).mono ?_
          rintro e wd ⟨rfl, rfl⟩
          go_wp2
          go_ret
          exact ⟨rfl, below_drewN HLO.out.low _⟩
        | some a9 =>
          go_wp2_with fail
          with_reducible refine HTX.out.mono ?_
          rintro e wb ⟨rfl, q, rfl⟩
          go_wp2_with fail
          with_reducible refine (HC8.out q).mono ?_
          rintro e wc ⟨rfl, rfl⟩
          go_wp2_with fail
          with_reducible refine (HS8.out q).mono ?_
          rintro e wd ⟨rfl, rfl⟩
          go_wp2
          go_ret
          exact ⟨rfl, below_drewN HLO.out.low _⟩
end

set_option maxRecDepth 100000 in
theorem walLasts_contract (H : Type) (enc : TypeId × Value → H) (W : World) (base : Nat) (args : Array Value) (ds gs : List (DataW H)) (before : List MemPlace)
    (hval : ∀ (j : Nat) t v, Tryz.f5.params[j]? = some t → args[j]? = some v → Value.okWide Tryz.prog W .any base t v)
    (hW : DataW.Whole enc Tryz.prog Tryz.f5.params.toList Rows.walLastsSpec.vars false W args.toList ds gs before) (hL : laidMetH Tryz.prog Rows.walLastsRow.laid W) :
    Calls Tryz.prog 5 args W fun e W' => ∃ v, e = .returned v ∧ Rows.walLastsSpec.post enc Tryz.prog Tryz.f5 false true false false W args v W' := by
  have hW' := hW
  have hT : TabW W := wtables hL
  obtain ⟨p, q, hA0, hV, rfl, hfz, hnd⟩ := hW
  have hA : DataW.TrodAll enc Tryz.prog W 0 (fun _ => true) true Tryz.f5.params.toList args.toList ds p := hA0
  rw [Tryz.params5] at hA hval
  obtain ⟨v0, vs0, d0, ds0, p0, q0, hargs, rfl, rfl, h0, r0⟩ := trodAll_cons hA
  obtain ⟨v1, vs1, d1, ds1, p1, q1, rfl, rfl, rfl, h1, r1⟩ := trodAll_cons r0
  obtain ⟨rfl, rfl, rfl⟩ := trodAll_nil r1
  obtain rfl : args = #[v0, v1] := by cases args; simp_all
  obtain ⟨rfl, rfl⟩ := trodVars_none hV
  obtain ⟨A0, c0, l0, rfl, hm0, hx0, ho0⟩ := open_ops (hval 0 22 v0 rfl rfl) h0
  obtain ⟨a1, rfl, rfl, rfl, w1⟩ := open_int Tryz.underlying3 (hval 1 3 v1 rfl rfl) h1
  clear hA0 hA
  unfold maxLen at hm0
  have b1 := bounds_i64 w1
  refine (walLasts_walk A0 c0 l0 a1 b1 W hT hx0 hm0.1 hm0.2 ho0).mono fun e W' ⟨he, hg⟩ => ?_
  subst he
  exact ⟨_, rfl, law_end laidOut (by kernel_rfl) (by kernel_rfl) Tryz.underlying4 rfl hW' ⟨rfl, rfl, rfl⟩ hg⟩

theorem walLasts_met (os : Os) : laidMet Tryz.prog Rows.walLastsRow.laid ((wworld os).forCall (fun _ _ => 0) ⟨#[], #[.slice none 0 0, .int .i64 0], []⟩).memory := wworld_met os _
theorem walLasts_reads (os : Os) {H : Type} (enc : TypeId × Value → H) : ∃ places, DataW.whole enc Tryz.prog ((wworld os).forCall (fun _ _ => 0) ⟨#[], #[.slice none 0 0, .int .i64 0], []⟩).memory Tryz.f5.params.toList Rows.walLastsSpec.vars false (#[.slice none 0 0, .int .i64 0] : Array Value).toList 8 = some ([.nil, .lit (.int .i64 0)], [], places) :=
  ⟨[], by kernel_rfl⟩

set_option maxRecDepth 100000 in
theorem walLasts_lifted (os : Os) (started : os.Started) (H : Type) (enc : TypeId × Value → H) (F : Stop.Interp) :
    ReturnsInHanded {} Tryz.checked os 5 .any ((OpenSpec.ofChange Rows.walLastsSpec).preRow enc Tryz.prog Tryz.f5 Rows.walLastsRow.domain false Rows.walLastsRow.laid) (((OpenSpec.ofChange Rows.walLastsSpec).at F).post enc Tryz.prog Tryz.f5 false true false false) := by
  obtain ⟨places, hx⟩ := walLasts_reads os enc
  refine returnsInHanded_of_row (C := Tryz.checked) (s := OpenSpec.ofChange Rows.walLastsSpec) ownKn started (by kernel_rfl) Tryz.func5
    (witness_row_atRef (enc := enc) (C := Tryz.checked) false (wworld os) #[.slice none 0 0, .int .i64 0] (World.laidAll_os _ _ _) (by kernel_rfl) (by kernel_rfl) (by kernel_rfl)
      (OpenSpec.preRow_of_cond 8 hx (by kernel_rfl) (fun k hk => by cases hk) (by kernel_rfl) (walLasts_met os))) ?_
  intro W base args ds gs before hval hW _ _ _ hL _ _
  exact walLasts_contract H enc W base args ds gs before hval hW hL

theorem walLasts_said : Rows.WalLastsSaid :=
  OpenClaim.holds_of_cond 5 Tryz.f5 rfl rfl rfl rfl rfl rfl rfl ⟨rfl, rfl, rfl, rfl, rfl⟩ rfl rfl rfl rfl rfl (by kernel_rfl) Tryz.func5 (by kernel_rfl)
    (of_decide_eq_true (by kernel_rfl)) (by unfold Func.isWrapper; first | (rw [if_pos (by decide +kernel)]; kernel_rfl) | (rw [if_neg (by decide +kernel)]; exact ⟨rfl, rfl⟩))
    (fun os started H enc _ F => by rw [OpenClaim.pre_eq_preRow]; exact walLasts_lifted os started H enc F)

theorem walLasts_plain (f : FuncId) (fn : Func) (hf : Tryz.pinned.checked.prog.funcNamed "manometer/manometerlaw12.WalLasts" = some f) (hfn : Tryz.pinned.checked.prog.funcs[f]? = some fn) :
    true = Tryz.pinned.checked.prog.looks [] ∧ ∀ (j : Nat) t, fn.params[j]? = some t → Tryz.pinned.checked.prog.wantsStandIn t = false := by
  obtain rfl : f = 5 := Option.some.inj ((show Tryz.prog.funcNamed "manometer/manometerlaw12.WalLasts" = some 5 by kernel_rfl).symm.trans hf) |>.symm
  obtain rfl : fn = Tryz.f5 := (Option.some.inj (Tryz.func5.symm.trans hfn)).symm
  refine ⟨by kernel_rfl, fun j t ht => ?_⟩
  rw [Tryz.params5] at ht
  have hm : t = 22 ∨ t = 3 := by simpa using Array.mem_of_getElem? ht
  rcases hm with rfl | rfl
  · exact (show Tryz.prog.wantsStandIn 22 = false by kernel_rfl)
  · exact (show Tryz.prog.wantsStandIn 3 = false by kernel_rfl)

theorem walLasts_card : Rows.WalLastsCardSaid :=
  Claim7.holds_tied_plain_at .later [] _ _ _ _ walLasts_said (fun _ h => by cases h) (by kernel_rfl) (fun _ h => by cases h) walLasts_row_tie rfl ⟨rfl, rfl⟩ (by kernel_rfl) rfl walLasts_plain (by kernel_rfl)
#print axioms walLasts_card

end Go.Proofs.YtnmbjhpecblioaaGreatDoor
