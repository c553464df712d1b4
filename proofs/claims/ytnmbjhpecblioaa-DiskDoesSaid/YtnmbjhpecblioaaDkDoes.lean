/-
  DiskDoes (P11.1 to P11.4): whatever is written, synced, cut, removed, swapped, and lost, each answer, and all files, are the document's; a copy goes on by itself. No condition.
-/
import Derived.Test.YtnmbjhpecblioaaZfl
import Derived.Test.YtnmbjhpecblioaaDv
import Derived.Test.YtnmbjhpecblioaaDi
import Derived.Test.YtnmbjhpecblioaaDj
import Derived.Test.YtnmbjhpecblioaaDx
namespace Go.Proofs.Ytnmbjhpecblioaa
set_option linter.unusedVariables false
set_option linter.unusedSimpArgs false
open Go.ChangeMaps (open_string)
open Go.ChangeShapes Go.WideShapes Go.ChangeAt Go.RowKit
section
set_option maxHeartbeats 3200000
set_option maxRecDepth 100000
theorem ask_both {B : Nat} {W w : World} {adb amb p room : Nat} {fv : Value} {es : List Ent} {ys : List RF} (h : DoesD B W w adb amb p room fv es ys) (he : es.map val = ys.map rval) (s : ByteArray) (hs : s.size ≤ maxLen) : ∃ code nn : Int,
    (∀ W', Below w.heap.size w W' → Calls Try.prog 14 #[.pointer (some ⟨adb, 0, none⟩), .string s] W' fun e w' => (∃ A n c, e = .returned (.tuple #[.slice A n c, .int .i64 code])) ∧ Below W'.heap.size W' w') ∧
    (∀ W', Below w.heap.size w W' → Calls Try.prog 15 #[.pointer (some ⟨p, 0, none⟩), .string s] W' fun e w' => (∃ A n c, e = .returned (.tuple #[.slice A n c, .int .i64 code])) ∧ Below W'.heap.size W' w') ∧
    (∀ W', Below w.heap.size w W' → Calls Try.prog 16 #[.pointer (some ⟨adb, 0, none⟩), .string s] W' fun e w' => e = .returned (.tuple #[.int .i64 nn, .int .i64 code]) ∧ Below W'.heap.size W' w') ∧
    (∀ W', Below w.heap.size w W' → Calls Try.prog 17 #[.pointer (some ⟨p, 0, none⟩), .string s] W' fun e w' => e = .returned (.tuple #[.int .i64 nn, .int .i64 code]) ∧ Below W'.heap.size W' w') := by
  have hsrt : (ys.map rval).Pairwise fun a b => bl a.1 < bl b.1 := by rw [← he]; exact srt_bl h.a.srt
  have hlk : lookL (ys.map rval) s = (lookE es s).map val := by rw [← he]; exact look_val _ _
  have hrd := fun (W' : World) (hb : Below w.heap.size w W') => dread_any (h.a.below hb) s hs
  have hrr := fun (W' : World) (hb : Below w.heap.size w W') => rread_any (h.b.below hb) s hsrt
  have hls := fun (W' : World) (hb : Below w.heap.size w W') => dlasts_any (h.a.below hb) s hs
  have hrl := fun (W' : World) (hb : Below w.heap.size w W') => rlasts_any (h.b.below hb) s hsrt
  rw [hlk] at hrr hrl
  generalize lookE es s = o at hrd hrr hls hrl
  cases o with
  | none =>
    refine ⟨4, 0, fun W' hb => (hrd W' hb).mono ?_, fun W' hb => (hrr W' hb).mono ?_, fun W' hb => (hls W' hb).mono ?_, fun W' hb => (hrl W' hb).mono ?_⟩
    · rintro e w' ⟨rfl, rfl⟩; exact ⟨⟨_, _, _, rfl⟩, Below.refl _ _⟩
    · rintro e w' ⟨rfl, hb⟩; exact ⟨⟨_, _, _, rfl⟩, hb⟩
    · rintro e w' ⟨rfl, rfl⟩; exact ⟨rfl, Below.refl _ _⟩
    · rintro e w' ⟨rfl, hb⟩; exact ⟨rfl, hb⟩
  | some z =>
    refine ⟨0, (z.n : Nat), fun W' hb => (hrd W' hb).mono ?_, fun W' hb => (hrr W' hb).mono ?_, fun W' hb => (hls W' hb).mono ?_, fun W' hb => (hrl W' hb).mono ?_⟩
    · rintro e w' ⟨A, c, rfl, -, hb⟩; exact ⟨⟨_, _, _, rfl⟩, hb⟩
    · rintro e w' ⟨⟨A, c, rfl, -⟩, hb⟩; exact ⟨⟨_, _, _, rfl⟩, hb⟩
    · rintro e w' ⟨rfl, rfl⟩; exact ⟨rfl, Below.refl _ _⟩
    · rintro e w' ⟨rfl, hb⟩; exact ⟨rfl, hb⟩
theorem diskDoes_bad (room : Int) (hr : room < 0 ∨ 16777216 < room) (A : Option Addr) (c n : Nat) (W : World) :
    Calls Try.prog 3 #[.int .i64 room, .slice A n c] W fun e w' => e = .returned (.bool true) ∧ RowKit.Below W.heap.size W w' := by
  have HNB := Lib.hid (dnew_bad room W hr)
  go_enter Try.func3, Try.ntmps3
  go_wp2_with fail
  with_reducible refine HNB.out.mono ?_
  rintro e w1 ⟨rfl, rfl⟩
  go_wp2_with fail
  with_reducible refine (dlive_any _).mono ?_
  rintro e w2 ⟨rfl, hb2⟩
  have HB2 := Lib.hid hb2; clear hb2
  rcases hr with hr | hr
  · go_wp2_with fail
    with_reducible refine (dlive_any _).mono ?_
    rintro e w3 ⟨rfl, hb3⟩
    have HB3 := Lib.hid (HB2.out.trans (hb3.mono HB2.out.size)); clear hb3
    go_wp2
    go_ret
    exact ⟨rfl, HB3.out⟩
  · have hr2 : ¬ room < 0 := by omega
    go_wp2_with fail
    with_reducible refine (dlive_any _).mono ?_
    rintro e w3 ⟨rfl, hb3⟩
    have HB3 := Lib.hid (HB2.out.trans (hb3.mono HB2.out.size)); clear hb3
    go_wp2
    go_ret
    exact ⟨rfl, HB3.out⟩
theorem diskDoes_walk (R : Nat) (hR : R ≤ 16777216) (A : Option Addr) (c : Nat) (l : List OpD) (W : World) (hx : Rd W A (l.flatMap opV)) (hlc : l.length ≤ c) (hcm : c ≤ 9223372036854775807) (hz : ∀ o ∈ l, OpOk W o) :
    Calls Try.prog 3 #[.int .i64 (R : Nat), .slice A l.length c] W fun e w' => e = .returned (.bool true) ∧ RowKit.Below W.heap.size W w' := by
  have HX := Lib.hid hx; have HZ := Lib.hid hz
  have r0 : ¬ (R : Int) < 0 := by omega
  have r1 : ¬ (16777216 : Int) < (R : Int) := by omega
  clear hx hz
  go_enter Try.func3, Try.ntmps3
  go_wp2_with fail
  with_reducible refine (dnew_any (R : Int) W (by omega)).mono ?_
  rintro e w1 ⟨rfl, D1, hb1⟩
  rw [Int.toNat_natCast] at D1
  have F1 : ∀ k, foot (W.heap.size + 1) W.heap.size [] k → W.heap.size ≤ k ∧ k < w1.heap.size := fun k hk => ⟨by
    rcases hk with h | h | ⟨e, he, _⟩
    · omega
    · omega
    · simp at he, D1.lt hk⟩
  obtain ⟨adb, hadb⟩ : ∃ x, x = W.heap.size + 1 := ⟨_, rfl⟩
  obtain ⟨amb, hamb⟩ : ∃ x, x = W.heap.size := ⟨_, rfl⟩
  rw [← hadb] at D1 F1 ⊢
  have D1' : DiskE w1 adb amb R [] := by rw [hamb]; exact D1
  have F1' : ∀ k, foot adb amb [] k → W.heap.size ≤ k ∧ k < w1.heap.size := by rw [hamb]; exact F1
  have HD1 := Lib.hid D1'; have HF1 := Lib.hid F1'; have HB1 := Lib.hid hb1
  clear D1 F1 D1' F1' hb1 hadb hamb
  go_wp2_with fail
  with_reducible refine (dlive_any _).mono ?_
  rintro e w2 ⟨rfl, hb2⟩
  have HB2 := Lib.hid (HB1.out.trans (hb2.mono HB1.out.size)); have HD2 := Lib.hid (HD1.out.below hb2)
  have HS2 := Lib.hid hb2.size
  clear hb2 HB1 HD1
  obtain ⟨w3, hw3⟩ : ∃ w3, w3 = w2.alloc (.cells #[.int .i64 (R : Nat), .slice none 0 0] 31) := ⟨_, rfl⟩
  have hb3 : Below w2.heap.size w2 w3 := by rw [hw3]; exact (Below.refl _ w2).alloc (Nat.le_refl _) _
  have hbx : w3.heap[w2.heap.size]? = some (.cells #[.int .i64 (R : Nat), .slice none 0 0] 31 (0, 0)) := by rw [hw3]; exact heap_alloc_new w2 _
  have HT := Lib.hid (show DoesD W.heap.size W w3 adb amb w2.heap.size R (.slice none 0 0) [] [] from
    ⟨HD2.out.below hb3, ⟨hbx, ⟨rfl, .inl ⟨rfl, rfl⟩⟩, (fun y hy => by simp at hy), ⟨Nat.zero_le _, hR, Nat.zero_le _⟩, (fun y hy => by simp at hy)⟩, fun k hk => (HF1.out k hk).1,
     (fun k hk => by
      rcases hk with rfl | hk | ⟨y, hy, _⟩
      · exact HB2.out.size
      · cases hk
      · simp at hy),
     (fun k h1 h2 => by
      rcases h2 with rfl | hk | ⟨y, hy, _⟩
      · have := (HF1.out _ h1).2; have := HS2.out; omega
      · cases hk
      · simp at hy), Nat.le_refl _, HB2.out.trans (hb3.mono HB2.out.size)⟩)
  have HW3 := Lib.hid hw3
  clear hw3 hb3 hbx HD2 HF1 HB2
  go_wp2_with fail
  rw [← HW3.out]
  go_wp2_with fail
  with_reducible refine (few_any A c l w3 (HX.out.below HT.out.low) hlc (fun o ho => (HZ.out o ho).below HT.out.low)).mono ?_
  rintro e w4 ⟨K, hK, hK15, rfl, hsm, hb4⟩
  have HT4 := Lib.hid (HT.out.below hb4)
  have HSM := Lib.hid hsm
  clear HT hb4 hsm
  obtain ⟨p, hp⟩ : ∃ p, p = w2.heap.size := ⟨_, rfl⟩
  rw [← hp] at HT4 ⊢
  clear hp HS2 HW3
  go_wp2
  go_loopw [5, 55] (fun s5 s55 wr => ∃ (k adb amb : Nat) (fv : Value) (es : List Ent) (ys : List RF), s5 = .pointer (some ⟨adb, 0, none⟩) ∧ s55 = .int .i64 k ∧ k ≤ K ∧ Aside (DoesD W.heap.size W wr adb amb p R fv es ys) ∧ Aside (es.map val = ys.map rval)) (fun _ s55 _ => K - (intOf s55).toNat)
  case atStart => exact ⟨0, adb, amb, _, [], [], rfl, rfl, by omega, HT4.out, rfl⟩
  case round =>
    clear HT4
    obtain ⟨k, qdb, qmb, fv, es, ys, rfl, rfl, hk, TD, IS⟩ := hrel
    have k0 : (0 : Int) ≤ (k : Int) := by omega
    by_cases hlt : k < K
    · have k1 : (k : Int) < (K : Int) := by omega
      obtain ⟨x, hxk⟩ : ∃ x, l[k]? = some x := ⟨_, List.getElem?_eq_getElem (by omega)⟩
      obtain ⟨b, off, rfl, hc⟩ := (HX.out.below TD.out.low).flat opV_len (by decide) hxk
      have c0 := hc 0 _ rfl; have c1 := hc 1 _ rfl; have c2 := hc 2 _ rfl; have c3 := hc 3 _ rfl; have c4 := hc 4 _ rfl
      rw [Nat.add_zero] at c0
      have hxs : x.bs.length ≤ 30000 := HSM.out x (by
        have : (l.take K)[k]? = some x := by rw [List.getElem?_take, if_pos hlt]; exact hxk
        exact List.mem_of_getElem? this)
      have hok := HZ.out x (List.mem_of_getElem? hxk)
      have HOK := Lib.hid (fun (W' : World) (hb : Below W.heap.size W W') => hok.below hb)
      have HNM := Lib.hid hok.1
      obtain ⟨W1, hW1⟩ : ∃ W1, W1 = wr.alloc (.cells (opV x).toArray 35) := ⟨_, rfl⟩
      have hb1 : Below wr.heap.size wr W1 := by rw [hW1]; exact (Below.refl _ wr).alloc (Nat.le_refl _) _
      have hg : W1.heap[wr.heap.size]? = some (.cells (opV x).toArray 35 (0, 0)) := by rw [hW1]; exact heap_alloc_new wr _
      have hcell : ∀ W' : World, W'.heap[wr.heap.size]? = some (.cells (opV x).toArray 35 (0, 0)) → W'.cell? ⟨wr.heap.size, 0, none⟩ = some (.int .i64 x.kd) ∧ W'.cell? ⟨wr.heap.size, 1, none⟩ = some (.string x.nm) ∧ W'.cell? ⟨wr.heap.size, 2, none⟩ = some (.string x.nt) ∧ W'.cell? ⟨wr.heap.size, 3, none⟩ = some (.slice x.A x.bs.length x.c) ∧ W'.cell? ⟨wr.heap.size, 4, none⟩ = some (.int .i64 x.n) := fun W' h =>
        ⟨cell_blk h 0, cell_blk h 1, cell_blk h 2, cell_blk h 3, cell_blk h 4⟩
      have hnf : ¬ foot qdb qmb es wr.heap.size := fun h => by have := TD.out.a.lt h; omega
      have hnr : ¬ footR p fv ys wr.heap.size := fun h => by have := TD.out.b.lt h; omega
      have HT1 := Lib.hid (TD.out.below hb1)
      have HCE := Lib.hid hcell; have HG := Lib.hid hg; have HNF := Lib.hid hnf; have HNR := Lib.hid hnr; have HIS := Lib.hid IS.out
      have HAGG := Lib.hid (show Value.agg (opV x).toArray = .agg #[.int .i64 x.kd, .string x.nm, .string x.nt, .slice x.A x.bs.length x.c, .int .i64 x.n] from rfl)
      have HWW := Lib.hid (show W1 = wr.alloc (.cells #[.int .i64 x.kd, .string x.nm, .string x.nt, .slice x.A x.bs.length x.c, .int .i64 x.n] 35) from hW1)
      have HLT := Lib.hid (blk_lt hg)
      obtain ⟨d0, d1, d2, d3, d4⟩ := hcell W1 hg
      clear hc hxk hok hb1 hg hcell hnf hnr hW1 TD IS
      by_cases h6 : x.kd = 6
      · have h6' : (x.kd == (6 : Int)) = true := by rw [h6]; rfl
        have H6 := Lib.hid h6; clear h6
        go_wp2_with fail
        rw [← HWW.out]
        go_wp2_with fail
        with_reducible refine (clone_any HT1.out.a).mono ?_
        rintro e x2 ⟨cdb, cmb, cur, rfl, hcd, hcv, hcf, hcb⟩
        have hL := HT1.out.cloned hcb hcd hcf
        have hg2 := (hcb.block _ HLT.out).trans HG.out
        have HL2 := Lib.hid hL; have HG2 := Lib.hid hg2
        have HCV := Lib.hid (hcv.trans HIS.out)
        have hcn : ¬ foot cdb cmb cur wr.heap.size := fun h => by have := hcf _ h; have := HLT.out; omega
        have HCN := Lib.hid hcn
        have hon := HNF.out
        have HON := Lib.hid hon
        have HZ2 := Lib.hid (show wr.heap.size < x2.heap.size from Nat.lt_of_lt_of_le HLT.out hcb.size)
        clear hL hg2 hcb hcd hcv hcf hcn hon d0 d1 d2 d3 d4
        have hcv := lit_bytes x2 #[.int .u8 120] 1 1
        go_wp2_with fail
        clear hcv
        have hb2 := (Below.refl _ x2).alloc (Nat.le_refl _) (.cells #[.int .u8 120] 5 (1, 2))
        have hL3 := HL2.out.below hb2
        have hA : Calls Try.prog 8 #[.pointer (some ⟨qdb, 0, none⟩), .string ⟨#[102]⟩, .slice (some ⟨x2.heap.size, 0, none⟩) 1 1] (x2.alloc (.cells #[.int .u8 120] 5 (1, 2))) (MutOut (x2.alloc (.cells #[.int .u8 120] 5 (1, 2))) qdb qmb R es (appD R (es.map val) fN [120])) := append_any hL3.o fN (by decide) _ 1 [120] (rd_mark x2 ([120].map Bv) _ _) (by decide)
        with_reducible refine hA.mono ?_
        clear hA
        rintro e x3 hM
        obtain ⟨rfl, os3, L3, g3, n3, z3⟩ := hL3.stepB hM ((hb2.block _ HZ2.out).trans HG2.out) HON.out (Nat.lt_of_lt_of_le HZ2.out hb2.size)
        have HL3 := Lib.hid L3; have HG3 := Lib.hid g3; have HN3 := Lib.hid n3; have HZ3 := Lib.hid z3
        clear hM hL3 L3 g3 n3 z3 hb2 HL2 HG2 HON HZ2
        go_wp2_with fail
        with_reducible refine (sync_any HL3.out.o fN (by decide)).mono ?_
        rintro e x4 hM
        obtain ⟨rfl, os4, L4, g4, n4, z4⟩ := HL3.out.stepB hM HG3.out HN3.out HZ3.out
        have HL4 := Lib.hid L4; have HG4 := Lib.hid g4; have HN4 := Lib.hid n4; have HZ4 := Lib.hid z4
        obtain ⟨d0, d1, d2, d3, d4⟩ := HCE.out x4 g4
        clear hM L4 g4 n4 z4 HL3 HG3 HN3 HZ3
        go_wp2_with fail
        with_reducible refine (remove_any HL4.out.o x.nm HNM.out.1).mono ?_
        rintro e x5 hM
        obtain ⟨rfl, os5, L5, g5, n5, z5⟩ := HL4.out.stepB hM HG4.out HN4.out HZ4.out
        have HT1 := Lib.hid L5.d; have HG := Lib.hid g5; have HLT := Lib.hid z5
        obtain ⟨d0, d1, d2, d3, d4⟩ := HCE.out x5 g5
        clear hM L5 g5 n5 z5 HL4 HG4 HN4 HZ4
        go_wp2_with fail
        have hsrt : (ys.map rval).Pairwise fun a b => bl a.1 < bl b.1 := by rw [← HCV.out]; exact srt_bl HT1.out.a.srt
        have hda := fun (W' : World) (hb : Below x5.heap.size x5 W') => does_any (HT1.out.a.below hb) x (HOK.out W' (HT1.out.below hb).low) (by omega)
        have hdb := fun (W' : World) (hb : RefE W' p R fv ys) (ho : OpOk W' x) => want_any hb x ho (by omega) hsrt
        rw [HCV.out] at hda
        generalize doD R (ys.map rval) x = RA at hda hdb
        obtain ⟨ca, la⟩ := RA
        rw [HAGG.out] at hda hdb
        have HDA := Lib.hid hda; have HDB := Lib.hid hdb
        have q1 : (ca != ca) = false := by simp
        clear hsrt hda hdb
        go_wp2_with fail
        go_region_held3 (fun W' => W'.cell? ⟨wr.heap.size, 0, none⟩ = some (.int .i64 x.kd) ∧ W'.cell? ⟨wr.heap.size, 1, none⟩ = some (.string x.nm) ∧ W'.cell? ⟨wr.heap.size, 2, none⟩ = some (.string x.nt) ∧ W'.cell? ⟨wr.heap.size, 3, none⟩ = some (.slice x.A x.bs.length x.c) ∧ W'.cell? ⟨wr.heap.size, 4, none⟩ = some (.int .i64 x.n)) (first | exact HCE.out _ HG4.out | exact HCE.out _ HG3.out | exact HCE.out _ HG2.out | exact HCE.out _ HG.out) (first
          | (go_at_call 11; go_must (refine (HDA.out _ (by first | exact Below.refl _ _ | exact below_drewN (Below.refl _ _) _)).mono ?_; rintro e wq hM; obtain ⟨rfl, es2, T2, L2, mv2⟩ := DoesD.first (HT1.out.below (by first | exact Below.refl _ _ | exact below_drewN (Below.refl _ _) _)) hM; have HG2 := Lib.hid ((mv2.block _ HLT.out HCN.out).trans HG.out); have HT2 := Lib.hid T2; have HL2 := Lib.hid (show es2.map val = la from L2); clear hM T2 L2 mv2))
          | (go_at_call 12; go_must (refine (HDB.out _ (HT2.out.below (by first | exact Below.refl _ _ | exact below_drewN (Below.refl _ _) _)).b (HOK.out _ (HT2.out.below (by first | exact Below.refl _ _ | exact below_drewN (Below.refl _ _) _)).low)).mono ?_; rintro e wq hM; obtain ⟨rfl, fv3, ys3, T3, L3, mv3⟩ := DoesD.second (HT2.out.below (by first | exact Below.refl _ _ | exact below_drewN (Below.refl _ _) _)) hM; have HG3 := Lib.hid ((mv3.block _ (blk_lt HG2.out) HNR.out).trans HG2.out); have HT3 := Lib.hid T3; have HV3 := Lib.hid (HL2.out.trans (show la = ys3.map rval from L3.symm)); clear hM T3 L3 mv3))
          | (go_at_call 13; go_must (refine (same_any (HT3.out.below (by first | exact Below.refl _ _ | exact below_drewN (Below.refl _ _) _)).a (HT3.out.below (by first | exact Below.refl _ _ | exact below_drewN (Below.refl _ _) _)).b HV3.out).mono ?_; rintro e wq ⟨rfl, hbq⟩; (try (have hq1 := undrewB hbq; clear hbq; have hbq := hq1; clear hq1)); have HT4 := Lib.hid (HT3.out.below hbq); have HG4 := Lib.hid ((hbq.block _ (blk_lt HG3.out)).trans HG3.out); clear hbq))
          | fail)
        all_goals
          obtain ⟨code, nn, hrd, hrr, hls, hrl⟩ := ask_both HT4.out HV3.out x.nt HNM.out.2
          have HRD := Lib.hid hrd; have HRR := Lib.hid hrr; have HLS := Lib.hid hls; have HRL := Lib.hid hrl
          have HBK := Lib.hid (show ∀ W', Below wq.heap.size wq W' → _ from fun W' hb => HCE.out W' ((hb.block _ (blk_lt HG4.out)).trans HG4.out))
          clear hrd hrr hls hrl
          have q2 : (code != code) = false := by simp
          have q3 : (nn != nn) = false := by simp
          obtain ⟨d0, d1, d2, d3, d4⟩ := HBK.out wq (Below.refl _ _)
          go_wp2_with fail
          with_reducible refine (HRD.out _ (by first | exact Below.refl _ _ | exact below_drewN (Below.refl _ _) _)).mono ?_
          rintro e y1 ⟨⟨A1, n1, c1, rfl⟩, hb1⟩
          (try (have hq1 := undrewB hb1; clear hb1; have hb1 := hq1; clear hq1))
          have HY1 := Lib.hid (show Below wq.heap.size wq y1 from hb1); clear hb1 d0 d1 d2 d3 d4
          obtain ⟨d0, d1, d2, d3, d4⟩ := HBK.out y1 HY1.out
          go_wp2_with fail
          with_reducible refine (HRR.out y1 HY1.out).mono ?_
          rintro e y2 ⟨⟨A2, n2, c2, rfl⟩, hb2⟩
          have HY2 := Lib.hid (HY1.out.trans (hb2.mono HY1.out.size)); clear hb2 d0 d1 d2 d3 d4
          obtain ⟨d0, d1, d2, d3, d4⟩ := HBK.out y2 HY2.out
          go_wp2_with fail
          with_reducible refine (HLS.out y2 HY2.out).mono ?_
          rintro e y3 ⟨rfl, hb3⟩
          have HY3 := Lib.hid (HY2.out.trans (hb3.mono HY2.out.size)); clear hb3 d0 d1 d2 d3 d4
          obtain ⟨d0, d1, d2, d3, d4⟩ := HBK.out y3 HY3.out
          go_wp2_with fail
          with_reducible refine (HRL.out y3 HY3.out).mono ?_
          rintro e y4 ⟨rfl, hb4⟩
          have HY4 := Lib.hid (HY3.out.trans (hb4.mono HY3.out.size)); clear hb4 d0 d1 d2 d3 d4
          go_wp2
          go_roundw
          case rel => exact ⟨k + 1, cdb, cmb, fv3, es2, ys3, rfl, by go_num, by omega, (show Aside _ from HT4.out.below HY4.out), (show Aside _ from HV3.out)⟩
          case measure => simp [intOf]; omega
      · have h6' : (x.kd == (6 : Int)) = false := by simp [h6]
        have H6 := Lib.hid h6; clear h6
        go_wp2_with fail
        rw [← HWW.out]
        have hsrt : (ys.map rval).Pairwise fun a b => bl a.1 < bl b.1 := by rw [← HIS.out]; exact srt_bl HT1.out.a.srt
        have hda := fun (W' : World) (hb : Below W1.heap.size W1 W') => does_any (HT1.out.a.below hb) x (HOK.out W' (HT1.out.below hb).low) (by omega)
        have hdb := fun (W' : World) (hb : RefE W' p R fv ys) (ho : OpOk W' x) => want_any hb x ho (by omega) hsrt
        rw [HIS.out] at hda
        generalize doD R (ys.map rval) x = RA at hda hdb
        obtain ⟨ca, la⟩ := RA
        rw [HAGG.out] at hda hdb
        have HDA := Lib.hid hda; have HDB := Lib.hid hdb
        have q1 : (ca != ca) = false := by simp
        clear hsrt hda hdb
        go_wp2_with fail
        go_region_held3 (fun W' => W'.cell? ⟨wr.heap.size, 0, none⟩ = some (.int .i64 x.kd) ∧ W'.cell? ⟨wr.heap.size, 1, none⟩ = some (.string x.nm) ∧ W'.cell? ⟨wr.heap.size, 2, none⟩ = some (.string x.nt) ∧ W'.cell? ⟨wr.heap.size, 3, none⟩ = some (.slice x.A x.bs.length x.c) ∧ W'.cell? ⟨wr.heap.size, 4, none⟩ = some (.int .i64 x.n)) (first | exact HCE.out _ HG4.out | exact HCE.out _ HG3.out | exact HCE.out _ HG2.out | exact HCE.out _ HG.out) (first
          | (go_at_call 11; go_must (refine (HDA.out _ (by first | exact Below.refl _ _ | exact below_drewN (Below.refl _ _) _)).mono ?_; rintro e wq hM; obtain ⟨rfl, es2, T2, L2, mv2⟩ := DoesD.first (HT1.out.below (by first | exact Below.refl _ _ | exact below_drewN (Below.refl _ _) _)) hM; have HG2 := Lib.hid ((mv2.block _ HLT.out HNF.out).trans HG.out); have HT2 := Lib.hid T2; have HL2 := Lib.hid (show es2.map val = la from L2); clear hM T2 L2 mv2))
          | (go_at_call 12; go_must (refine (HDB.out _ (HT2.out.below (by first | exact Below.refl _ _ | exact below_drewN (Below.refl _ _) _)).b (HOK.out _ (HT2.out.below (by first | exact Below.refl _ _ | exact below_drewN (Below.refl _ _) _)).low)).mono ?_; rintro e wq hM; obtain ⟨rfl, fv3, ys3, T3, L3, mv3⟩ := DoesD.second (HT2.out.below (by first | exact Below.refl _ _ | exact below_drewN (Below.refl _ _) _)) hM; have HG3 := Lib.hid ((mv3.block _ (blk_lt HG2.out) HNR.out).trans HG2.out); have HT3 := Lib.hid T3; have HV3 := Lib.hid (HL2.out.trans (show la = ys3.map rval from L3.symm)); clear hM T3 L3 mv3))
          | (go_at_call 13; go_must (refine (same_any (HT3.out.below (by first | exact Below.refl _ _ | exact below_drewN (Below.refl _ _) _)).a (HT3.out.below (by first | exact Below.refl _ _ | exact below_drewN (Below.refl _ _) _)).b HV3.out).mono ?_; rintro e wq ⟨rfl, hbq⟩; (try (have hq1 := undrewB hbq; clear hbq; have hbq := hq1; clear hq1)); have HT4 := Lib.hid (HT3.out.below hbq); have HG4 := Lib.hid ((hbq.block _ (blk_lt HG3.out)).trans HG3.out); clear hbq))
          | fail)
        all_goals
          obtain ⟨code, nn, hrd, hrr, hls, hrl⟩ := ask_both HT4.out HV3.out x.nt HNM.out.2
          have HRD := Lib.hid hrd; have HRR := Lib.hid hrr; have HLS := Lib.hid hls; have HRL := Lib.hid hrl
          have HBK := Lib.hid (show ∀ W', Below wq.heap.size wq W' → _ from fun W' hb => HCE.out W' ((hb.block _ (blk_lt HG4.out)).trans HG4.out))
          clear hrd hrr hls hrl
          have q2 : (code != code) = false := by simp
          have q3 : (nn != nn) = false := by simp
          obtain ⟨d0, d1, d2, d3, d4⟩ := HBK.out wq (Below.refl _ _)
          go_wp2_with fail
          with_reducible refine (HRD.out _ (by first | exact Below.refl _ _ | exact below_drewN (Below.refl _ _) _)).mono ?_
          rintro e y1 ⟨⟨A1, n1, c1, rfl⟩, hb1⟩
          (try (have hq1 := undrewB hb1; clear hb1; have hb1 := hq1; clear hq1))
          have HY1 := Lib.hid (show Below wq.heap.size wq y1 from hb1); clear hb1 d0 d1 d2 d3 d4
          obtain ⟨d0, d1, d2, d3, d4⟩ := HBK.out y1 HY1.out
          go_wp2_with fail
          with_reducible refine (HRR.out y1 HY1.out).mono ?_
          rintro e y2 ⟨⟨A2, n2, c2, rfl⟩, hb2⟩
          have HY2 := Lib.hid (HY1.out.trans (hb2.mono HY1.out.size)); clear hb2 d0 d1 d2 d3 d4
          obtain ⟨d0, d1, d2, d3, d4⟩ := HBK.out y2 HY2.out
          go_wp2_with fail
          with_reducible refine (HLS.out y2 HY2.out).mono ?_
          rintro e y3 ⟨rfl, hb3⟩
          have HY3 := Lib.hid (HY2.out.trans (hb3.mono HY2.out.size)); clear hb3 d0 d1 d2 d3 d4
          obtain ⟨d0, d1, d2, d3, d4⟩ := HBK.out y3 HY3.out
          go_wp2_with fail
          with_reducible refine (HRL.out y3 HY3.out).mono ?_
          rintro e y4 ⟨rfl, hb4⟩
          have HY4 := Lib.hid (HY3.out.trans (hb4.mono HY3.out.size)); clear hb4 d0 d1 d2 d3 d4
          go_wp2
          go_roundw
          case rel => exact ⟨k + 1, qdb, qmb, fv3, es2, ys3, rfl, by go_num, by omega, (show Aside _ from HT4.out.below HY4.out), (show Aside _ from HV3.out)⟩
          case measure => simp [intOf]; omega
    · obtain rfl : k = K := by omega
      have HF := Lib.hid TD.out.low
      clear TD IS
      go_wp2
      go_ret
      exact ⟨rfl, HF.out⟩
theorem diskDoes_all (room : Int) (A : Option Addr) (c : Nat) (l : List OpD) (W : World) (hx : Rd W A (l.flatMap opV)) (hlc : l.length ≤ c) (hcm : c ≤ 9223372036854775807) (hz : ∀ o ∈ l, OpOk W o) :
    Calls Try.prog 3 #[.int .i64 room, .slice A l.length c] W fun e w' => e = .returned (.bool true) ∧ RowKit.Below W.heap.size W w' := by
  by_cases h : room < 0 ∨ 16777216 < room
  · exact diskDoes_bad room h A c l.length W
  · obtain ⟨R, rfl⟩ := Int.eq_ofNat_of_zero_le (show 0 ≤ room by omega)
    exact diskDoes_walk R (by omega) A c l W hx hlc hcm hz
end

set_option maxRecDepth 100000 in
theorem diskDoes_lifted (os : Os) (started : os.Started) (H : Type) (enc : TypeId × Value → H) :
    ReturnsInHanded {} Try.checked os 3 .any (Rows.diskDoesSpec.pre6 enc Try.prog Try.f3 Rows.diskDoesRow.domain false) (Rows.diskDoesSpec.post enc Try.prog Try.f3 false true false false) := by
  refine returnsInHanded_of_change (C := Try.checked) ownKn started (by kernel_rfl) Try.func3
    (ChangeSpec.witness6 (enc := enc) (C := Try.checked) false ⟨#[], #[.int .i64 0, .slice none 0 0], []⟩ 8 (by kernel_rfl) (by kernel_rfl) (by kernel_rfl) (by kernel_rfl)) ?_
  intro W base args ds gs before hval0 hW hcnd _
  have hval : ∀ (j : Nat) t v, Try.f3.params[j]? = some t → args[j]? = some v → Value.okWide Try.prog W .any base t v := hval0
  have hW' := hW
  obtain ⟨p, q, hA0, hV, rfl, hfz, hnd⟩ := hW
  have hA : DataW.TrodAll enc Try.prog W 0 (fun _ => true) true Try.f3.params.toList args.toList ds p := hA0
  rw [Try.params3] at hA hval
  obtain ⟨v0, vs0, d0, ds0, p0, q0, hargs, rfl, rfl, h0, r0⟩ := trodAll_cons hA
  obtain ⟨v1, vs1, d1, ds1, p1, q1, rfl, rfl, rfl, h1, r1⟩ := trodAll_cons r0
  obtain ⟨rfl, rfl, rfl⟩ := trodAll_nil r1
  obtain rfl : args = #[v0, v1] := by cases args; simp_all
  obtain ⟨rfl, rfl⟩ := trodVars_none hV
  obtain ⟨a0, rfl, rfl, rfl, w0⟩ := open_int Try.underlying3 (hval 0 3 v0 rfl rfl) h0
  obtain ⟨A1, c1, l1, rfl, hm1, hx1, ho1⟩ := open_ops (hval 1 22 v1 rfl rfl) h1
  clear hA0 hval0 hA
  have b0 := bounds_i64 w0
  unfold maxLen at hm1
  refine (diskDoes_all a0 A1 c1 l1 W hx1 hm1.1 hm1.2 ho1).mono fun e W' ⟨he, hg⟩ => ?_
  subst he
  exact ⟨_, rfl, law_end laidOut (by kernel_rfl) (by kernel_rfl) Try.underlying4 rfl hW' ⟨rfl, rfl, rfl⟩ hg⟩

theorem diskDoes_holds : Rows.DiskDoesSaid :=
  OpenClaim.holds_of_wide 3 Try.f3 rfl rfl rfl rfl rfl rfl rfl ⟨rfl, rfl, rfl, rfl, rfl⟩ rfl rfl rfl rfl rfl (by kernel_rfl) Try.func3 (by kernel_rfl)
    (of_decide_eq_true (by kernel_rfl)) (by unfold Func.isWrapper; first | (rw [if_pos (by decide +kernel)]; kernel_rfl) | (rw [if_neg (by decide +kernel)]; exact ⟨rfl, rfl⟩))
    (fun os started H enc _ => diskDoes_lifted os started H enc)
#print axioms diskDoes_holds

end Go.Proofs.Ytnmbjhpecblioaa
