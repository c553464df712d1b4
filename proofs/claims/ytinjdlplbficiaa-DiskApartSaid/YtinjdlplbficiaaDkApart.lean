/-
  DiskApart (P11.6): what is done to a file does not hang on the others, as long as there is room. No condition.
-/
import Derived.Test.YtinjdlplbficiaaDv
import Derived.Test.YtinjdlplbficiaaDl
import Derived.Test.YtinjdlplbficiaaDq
import Derived.Test.YtinjdlplbficiaaDj
namespace Go.Proofs.Ytinjdlplbficiaa
set_option linter.unusedVariables false
set_option linter.unusedSimpArgs false
open Go.ChangeMaps (open_string)
open Go.ChangeShapes Go.WideShapes Go.ChangeAt Go.RowKit
theorem texts_is {a b : ByteArray} (h : a = b) : (a.toList == b.toList) = true := by rw [h]; exact beq_self_eq_true _
theorem texts_not {a b : ByteArray} (h : ¬ a = b) : (a.toList == b.toList) = false := by
  rw [beq_eq_false_iff_ne, toList_bl, toList_bl]
  exact fun e => h (bl_inj e)
/-- Two disks beside one another, of which the second has what the first has of one name. -/
structure TwoD (B : Nat) (W w : World) (adb amb bdb bmb : Nat) (ea eb : List Ent) (s : ByteArray) (m : Nat) : Prop where
  a : DiskE w adb amb 16777216 ea
  b : DiskE w bdb bmb 16777216 eb
  fa : ∀ k, foot adb amb ea k → B ≤ k
  fb : ∀ k, foot bdb bmb eb k → B ≤ k
  ap : ∀ k, foot adb amb ea k → foot bdb bmb eb k → False
  base : B ≤ W.heap.size
  low : Below B W w
  is : eb.map val = ofN s (ea.map val)
  len : lenL (ea.map val) ≤ m
section
variable {B : Nat} {W w w' : World} {adb amb bdb bmb : Nat} {ea eb : List Ent} {s : ByteArray} {m : Nat}
theorem TwoD.below (h : TwoD B W w adb amb bdb bmb ea eb s m) (hb : Below w.heap.size w w') : TwoD B W w' adb amb bdb bmb ea eb s m :=
  ⟨h.a.below hb, h.b.below hb, h.fa, h.fb, h.ap, h.base, h.low.trans (hb.mono (Nat.le_trans h.base h.low.size)), h.is, h.len⟩
theorem TwoD.more (h : TwoD B W w adb amb bdb bmb ea eb s m) {m' : Nat} (hm : m ≤ m') : TwoD B W w adb amb bdb bmb ea eb s m' := ⟨h.a, h.b, h.fa, h.fb, h.ap, h.base, h.low, h.is, Nat.le_trans h.len hm⟩
/-- A call of the first disk alone. -/
theorem TwoD.first (h : TwoD B W w adb amb bdb bmb ea eb s m) {r : Int × List Fl} {e : Ending} (hM : MutOut w adb amb 16777216 ea r e w') (n : Nat) (hl : lenL r.2 ≤ m + n) :
    e = .returned (.int .i64 r.1) ∧ ∃ ea', (DiskE w' adb amb 16777216 ea' ∧ DiskE w' bdb bmb 16777216 eb ∧ (∀ k, foot adb amb ea' k → B ≤ k) ∧ (∀ k, foot bdb bmb eb k → B ≤ k) ∧ (∀ k, foot adb amb ea' k → foot bdb bmb eb k → False) ∧ Below B W w' ∧ ea'.map val = r.2) ∧ Mv (foot adb amb ea) w w' := by
  obtain ⟨h1, ea', h2, h3, h4, h5⟩ := hM
  refine ⟨h1, ea', ⟨h2, h.b.moved fun k hk => h4.block k (h.b.lt hk) (fun hf => h.ap k hf hk), fun k hk => ?_, h.fb, fun k hk hb => ?_, h.low.trans (h4.belowB (Nat.le_trans h.base h.low.size) fun k hk hf => by have := h.fa k hf; omega), h3⟩, h4⟩
  · rcases h5 k hk with hf | hf
    · exact h.fa k hf
    · exact Nat.le_trans (Nat.le_trans h.base h.low.size) hf
  · rcases h5 k hk with hf | hf
    · exact h.ap k hf hb
    · have := h.b.lt hb; omega
theorem TwoD.second (ha : DiskE w adb amb 16777216 ea) (hb : DiskE w bdb bmb 16777216 eb) (fa : ∀ k, foot adb amb ea k → B ≤ k) (fb : ∀ k, foot bdb bmb eb k → B ≤ k) (ap : ∀ k, foot adb amb ea k → foot bdb bmb eb k → False) (base : B ≤ W.heap.size) (low : Below B W w)
    {r : Int × List Fl} {e : Ending} (hM : MutOut w bdb bmb 16777216 eb r e w') (his : r.2 = ofN s (ea.map val)) (hl : lenL (ea.map val) ≤ m) : e = .returned (.int .i64 r.1) ∧ ∃ eb', TwoD B W w' adb amb bdb bmb ea eb' s m := by
  obtain ⟨h1, eb', h2, h3, h4, h5⟩ := hM
  refine ⟨h1, eb', ha.moved fun k hk => h4.block k (ha.lt hk) (fun hf => ap k hk hf), h2, fa, fun k hk => ?_, fun k hk hb' => ?_, base, low.trans (h4.belowB (Nat.le_trans base low.size) fun k hk hf => by have := fb k hf; omega), h3.trans his, hl⟩
  · rcases h5 k hk with hf | hf
    · exact fb k hf
    · exact Nat.le_trans (Nat.le_trans base low.size) hf
  · rcases h5 k hb' with hf | hf
    · exact ap k hk hf
    · have := ha.lt hk; omega
end
section
set_option maxHeartbeats 3200000
set_option maxRecDepth 100000
theorem diskApart_walk (A : Option Addr) (c : Nat) (l : List OpD) (s : ByteArray) (W : World) (hx : Rd W A (l.flatMap opV)) (hlc : l.length ≤ c) (hcm : c ≤ 9223372036854775807) (hz : ∀ o ∈ l, OpOk W o) (hs : s.size ≤ maxLen) :
    Calls Try.prog 6 #[.slice A l.length c, .string s] W fun e w' => e = .returned (.bool true) ∧ RowKit.Below W.heap.size W w' := by
  have HX := Lib.hid hx; have HZ := Lib.hid hz
  clear hx hz
  go_enter Try.func6, Try.ntmps6
  go_wp2_with fail
  with_reducible refine (dnew_any 16777216 W (by decide)).mono ?_
  rintro e w1 ⟨rfl, D1, hb1⟩
  rw [show Int.toNat 16777216 = 16777216 from rfl] at D1
  have F1 : ∀ k, foot (W.heap.size + 1) W.heap.size [] k → W.heap.size ≤ k ∧ k < w1.heap.size := fun k hk => ⟨by
    rcases hk with h | h | ⟨e, he, _⟩
    · omega
    · omega
    · simp at he, D1.lt hk⟩
  obtain ⟨adb, hadb⟩ : ∃ x, x = W.heap.size + 1 := ⟨_, rfl⟩
  obtain ⟨amb, hamb⟩ : ∃ x, x = W.heap.size := ⟨_, rfl⟩
  rw [← hadb] at D1 F1 ⊢
  have D1' : DiskE w1 adb amb 16777216 [] := by rw [hamb]; exact D1
  have F1' : ∀ k, foot adb amb [] k → W.heap.size ≤ k ∧ k < w1.heap.size := by rw [hamb]; exact F1
  have HD1 := Lib.hid D1'; have HF1 := Lib.hid F1'; have HB1 := Lib.hid hb1
  clear D1 F1 D1' F1' hb1 hadb hamb
  go_wp2_with fail
  with_reducible refine (dnew_any 16777216 w1 (by decide)).mono ?_
  rintro e w2 ⟨rfl, D2, hb2⟩
  rw [show Int.toNat 16777216 = 16777216 from rfl] at D2
  have F2 : ∀ k, foot (w1.heap.size + 1) w1.heap.size [] k → w1.heap.size ≤ k := fun k hk => by
    rcases hk with h | h | ⟨e, he, _⟩
    · omega
    · omega
    · simp at he
  obtain ⟨bdb, hbdb⟩ : ∃ x, x = w1.heap.size + 1 := ⟨_, rfl⟩
  obtain ⟨bmb, hbmb⟩ : ∃ x, x = w1.heap.size := ⟨_, rfl⟩
  rw [← hbdb] at D2 F2 ⊢
  have D2' : DiskE w2 bdb bmb 16777216 [] := by rw [hbmb]; exact D2
  have F2' : ∀ k, foot bdb bmb [] k → w1.heap.size ≤ k := by rw [hbmb]; exact F2
  have HT := Lib.hid (show TwoD W.heap.size W w2 adb amb bdb bmb [] [] s 0 from ⟨HD1.out.below hb2, D2', fun k hk => (HF1.out k hk).1, fun k hk => Nat.le_trans HB1.out.size (F2' k hk), fun k h1 h2 => by have := (HF1.out k h1).2; have := F2' k h2; omega, Nat.le_refl _, HB1.out.trans (hb2.mono HB1.out.size), rfl, Nat.le_refl _⟩)
  clear D2 F2 D2' F2' hb2 hbdb hbmb HD1 HF1 HB1
  go_wp2_with fail
  with_reducible refine (dlive_any _).mono ?_
  rintro e w3 ⟨rfl, hb3⟩
  have HT3 := Lib.hid (HT.out.below hb3)
  clear HT hb3
  go_wp2_with fail
  with_reducible refine (few_any A c l w3 (HX.out.below HT3.out.low) hlc (fun o ho => (HZ.out o ho).below HT3.out.low)).mono ?_
  rintro e w4 ⟨K, hK, hK15, rfl, hsm, hb4⟩
  have HT4 := Lib.hid (HT3.out.below hb4)
  have HSM := Lib.hid hsm
  clear HT3 hb4 hsm
  go_wp2
  go_loopw [49] (fun s49 wr => ∃ (k : Nat) (ea eb : List Ent), s49 = .int .i64 k ∧ k ≤ K ∧ Aside (TwoD W.heap.size W wr adb amb bdb bmb ea eb s (30000 * k))) (fun s49 _ => K - (intOf s49).toNat)
  case atStart => exact ⟨0, [], [], rfl, by omega, HT4.out⟩
  case round =>
    clear HT4
    obtain ⟨k, ea, eb, rfl, hk, TD⟩ := hrel
    have k0 : (0 : Int) ≤ (k : Int) := by omega
    by_cases hlt : k < K
    · have k1 : (k : Int) < (K : Int) := by omega
      obtain ⟨x, hxk⟩ : ∃ x, l[k]? = some x := ⟨_, List.getElem?_eq_getElem (by omega)⟩
      obtain ⟨b, off, rfl, hc⟩ := (HX.out.below TD.out.low).flat opV_len (by decide) hxk
      have c0 := hc 0 _ rfl; have c1 := hc 1 _ rfl; have c2 := hc 2 _ rfl; have c3 := hc 3 _ rfl; have c4 := hc 4 _ rfl
      rw [Nat.add_zero] at c0
      have hxs : x.bs.length ≤ 30000 := HSM.out x (by
        have : (l.take K)[k]? = some x := by rw [List.getElem?_take, if_pos hlt]; exact hxk
        exact List.mem_of_getElem? this)
      have hok := (HZ.out x (List.mem_of_getElem? hxk)).below TD.out.low
      obtain ⟨W1, hW1⟩ : ∃ W1, W1 = wr.alloc (.cells (opV x).toArray 47) := ⟨_, rfl⟩
      have hb1 : Below wr.heap.size wr W1 := by rw [hW1]; exact (Below.refl _ wr).alloc (Nat.le_refl _) _
      have hg : W1.heap[wr.heap.size]? = some (.cells (opV x).toArray 47 (0, 0)) := by rw [hW1]; exact heap_alloc_new wr _
      have hgl : wr.heap.size < W1.heap.size := blk_lt hg
      have HT1 := Lib.hid (TD.out.below hb1)
      have hox := hok.below hb1
      have hcell : ∀ W' : World, W'.heap[wr.heap.size]? = some (.cells (opV x).toArray 47 (0, 0)) → W'.cell? ⟨wr.heap.size, 0, none⟩ = some (.int .i64 x.kd) ∧ W'.cell? ⟨wr.heap.size, 1, none⟩ = some (.string x.nm) ∧ W'.cell? ⟨wr.heap.size, 2, none⟩ = some (.string x.nt) ∧ W'.cell? ⟨wr.heap.size, 3, none⟩ = some (.slice x.A x.bs.length x.c) ∧ W'.cell? ⟨wr.heap.size, 4, none⟩ = some (.int .i64 x.n) := fun W' h =>
        ⟨cell_blk h 0, cell_blk h 1, cell_blk h 2, cell_blk h 3, cell_blk h 4⟩
      have hnf : ¬ foot adb amb ea wr.heap.size := fun h => by have := TD.out.a.lt h; omega
      have hnfb : ¬ foot bdb bmb eb wr.heap.size := fun h => by have := TD.out.b.lt h; omega
      have HCE := Lib.hid hcell; have HG := Lib.hid hg; have HW1 := Lib.hid hW1; have HOX := Lib.hid hox; have HNF := Lib.hid hnf; have HNFB := Lib.hid hnfb
      -- what a call of the first one comes to
      have HDA := Lib.hid (fun (W' : World) (hb : Below W1.heap.size W1 W') => does_any (HT1.out.a.below hb) x (HOX.out.below hb) (by omega))
      have hlen := do_len (room := 16777216) (srt_fst TD.out.a.srt) (fun f hf => by obtain ⟨y, hy, rfl⟩ := List.mem_map.1 hf; exact (TD.out.a.each y hy).1) x
      have hroom : lenL (ea.map val) + x.bs.length ≤ 16777216 := by have := TD.out.len; omega
      have hl2 : lenL (doD 16777216 (ea.map val) x).2 ≤ 30000 * k + 30000 := by have := TD.out.len; omega
      have HOF := Lib.hid (fun (hn : x.nm = s) (hsw : x.kd = 4 → x.nt = s) (hl : x.kd = 0 → (ea.map val).length < 64) => do_of (room := 16777216) (L := ea.map val) hn hsw hl hroom)
      have HCR := Lib.hid (fun (h : x.kd = 5) => do_crash (room := 16777216) (L := ea.map val) (s := s) h)
      have HOFF := Lib.hid (fun (hn : x.nm ≠ s) (hsw : x.kd = 4 → x.nt ≠ s) (h5 : x.kd ≠ 5) => do_off (room := 16777216) (L := ea.map val) hn hsw h5)
      have HDB := Lib.hid (fun (W' : World) (hd : DiskE W' bdb bmb 16777216 eb) (ho : OpOk W' x) => does_any hd x ho (by omega))
      have his := TD.out.is
      rw [his] at HDB
      have HIS := Lib.hid his; have HL2 := Lib.hid hl2
      have HLI := Lib.hid (fun (W' : World) (hb : Below W1.heap.size W1 W') => dlist_any (HT1.out.a.below hb))
      have hel := TD.out.a.fits.2.2
      have hne : ∀ n, ea.length = n → (ea.map val).length = n := fun n h => by rw [List.length_map]; exact h
      have hln : (ea.map val).length = ea.length := List.length_map _
      generalize doD 16777216 (ea.map val) x = RA at HDA hl2 HOF HCR HOFF hlen HL2
      generalize doD 16777216 (ofN s (ea.map val)) x = RB at HDB HOF HCR
      obtain ⟨d0, d1, d2, d3, d4⟩ := hcell W1 hg
      have HAGG := Lib.hid (show Value.agg (opV x).toArray = .agg #[.int .i64 x.kd, .string x.nm, .string x.nt, .slice x.A x.bs.length x.c, .int .i64 x.n] from rfl)
      have hxm := List.mem_of_getElem? hxk
      clear hc hxk hok hb1 hg hox hcell hnf hnfb hlen hroom hl2 his hne
      rw [HAGG.out] at HDA HDB
      obtain ⟨ca, la⟩ := RA
      obtain ⟨cb, lb⟩ := RB
      have HWW := Lib.hid (show W1 = wr.alloc (.cells #[.int .i64 x.kd, .string x.nm, .string x.nt, .slice x.A x.bs.length x.c, .int .i64 x.n] 47) from hW1)
      clear hW1
      simp only at HOF HCR HOFF HL2
      by_cases hk4 : x.kd = 4
      · have hk0 : ¬ x.kd = 0 := by omega
        have hk5 : ¬ x.kd = 5 := by omega
        by_cases hn1 : x.nm = s
        · by_cases hn2 : x.nt = s
          · have hdo := HOF.out hn1 (fun h => hn2) (fun h => absurd h hk0)
            have HDO2 := Lib.hid hdo.2
            have hcc := hdo.1
            subst hcc
            clear hdo
            have e4 : (x.kd == (4 : Int)) = true := by simp [hk4]
            have e0 : (x.kd == (0 : Int)) = false := by simp [hk0]
            have e5 : (x.kd != (5 : Int)) = true := by simp [hk5]
            have t1 := texts_is hn1; have t1n : (x.nm.toList != s.toList) = false := by rw [bne, t1]; rfl
            have t2 := texts_is hn2
            have HK4 := Lib.hid hk4; have HK0 := Lib.hid hk0; have HK5 := Lib.hid hk5; have HN1 := Lib.hid hn1; clear hk4 hk0 hk5 hn1
            have HN2 := Lib.hid hn2; clear hn2
            go_wp2_with fail
            rw [← HWW.out]
            have HBL := Lib.hid (Below.refl W1.heap.size W1)
            with_reducible refine (HDA.out _ HBL.out).mono ?_
            rintro e x2 hM
            obtain ⟨rfl, ea2, ⟨A2, B2, fa2, fb2, ap2, low2, L2⟩, hmv⟩ := TwoD.first (HT1.out.below HBL.out) hM 30000 HL2.out
            have hg2 := (hmv.block wr.heap.size (Nat.lt_of_lt_of_le hgl HBL.out.size) HNF.out).trans ((HBL.out.block wr.heap.size hgl).trans HG.out)
            obtain ⟨d0, d1, d2, d3, d4⟩ := HCE.out x2 hg2
            have HLL2 := Lib.hid (show ea2.map val = la from L2)
            have HA2 := Lib.hid A2; have HB2 := Lib.hid B2; have HFA2 := Lib.hid fa2; have HFB2 := Lib.hid fb2; have HAP2 := Lib.hid ap2; have HLO2 := Lib.hid low2
            have HOX2 := Lib.hid ((HZ.out x hxm).below low2)
            clear hM A2 B2 fa2 fb2 ap2 low2 L2 hmv hg2
            go_wp2_with fail
            with_reducible refine (HDB.out _ HB2.out HOX2.out).mono ?_
            rintro e x3 hM
            obtain ⟨rfl, eb2, T3⟩ := TwoD.second (s := s) (m := 30000 * (k + 1)) HA2.out HB2.out HFA2.out HFB2.out HAP2.out (Nat.le_refl _) HLO2.out hM (by rw [HLL2.out]; exact HDO2.out) (by rw [HLL2.out]; have := HL2.out; omega)
            have HT5 := Lib.hid T3
            clear hM T3
            go_wp2_with fail
            go_roundw
            case rel => exact ⟨k + 1, ea2, eb2, by go_num, by omega, (show Aside _ from HT5.out)⟩
            case measure => simp [intOf]; omega
          · have e4 : (x.kd == (4 : Int)) = true := by simp [hk4]
            have e0 : (x.kd == (0 : Int)) = false := by simp [hk0]
            have e5 : (x.kd != (5 : Int)) = true := by simp [hk5]
            have t1 := texts_is hn1; have t1n : (x.nm.toList != s.toList) = false := by rw [bne, t1]; rfl
            have t2 := texts_not hn2
            have HK4 := Lib.hid hk4; have HK0 := Lib.hid hk0; have HK5 := Lib.hid hk5; have HN1 := Lib.hid hn1; clear hk4 hk0 hk5 hn1
            have HN2 := Lib.hid hn2; clear hn2
            go_wp2_with fail
            go_roundw
            case rel => exact ⟨k + 1, ea, eb, by go_num, by omega, (show Aside _ from (TD.out.below ((Below.refl _ wr).alloc (Nat.le_refl _) _)).more (by omega))⟩
            case measure => simp [intOf]; omega
        · by_cases hn2 : x.nt = s
          · have e4 : (x.kd == (4 : Int)) = true := by simp [hk4]
            have e0 : (x.kd == (0 : Int)) = false := by simp [hk0]
            have e5 : (x.kd != (5 : Int)) = true := by simp [hk5]
            have t1 := texts_not hn1; have t1n : (x.nm.toList != s.toList) = true := by rw [bne, t1]; rfl
            have t2 := texts_is hn2
            have HK4 := Lib.hid hk4; have HK0 := Lib.hid hk0; have HK5 := Lib.hid hk5; have HN1 := Lib.hid hn1; clear hk4 hk0 hk5 hn1
            have HN2 := Lib.hid hn2; clear hn2
            go_wp2_with fail
            go_roundw
            case rel => exact ⟨k + 1, ea, eb, by go_num, by omega, (show Aside _ from (TD.out.below ((Below.refl _ wr).alloc (Nat.le_refl _) _)).more (by omega))⟩
            case measure => simp [intOf]; omega
          · have e4 : (x.kd == (4 : Int)) = true := by simp [hk4]
            have e0 : (x.kd == (0 : Int)) = false := by simp [hk0]
            have e5 : (x.kd != (5 : Int)) = true := by simp [hk5]
            have t1 := texts_not hn1; have t1n : (x.nm.toList != s.toList) = true := by rw [bne, t1]; rfl
            have t2 := texts_not hn2
            have HK4 := Lib.hid hk4; have HK0 := Lib.hid hk0; have HK5 := Lib.hid hk5; have HN1 := Lib.hid hn1; clear hk4 hk0 hk5 hn1
            have HN2 := Lib.hid hn2; clear hn2
            go_wp2_with fail
            rw [← HWW.out]
            have HBL := Lib.hid (Below.refl W1.heap.size W1)
            with_reducible refine (HDA.out _ HBL.out).mono ?_
            rintro e x2 hM
            obtain ⟨rfl, ea2, ⟨A2, B2, fa2, fb2, ap2, low2, L2⟩, hmv⟩ := TwoD.first (HT1.out.below HBL.out) hM 30000 HL2.out
            have hg2 := (hmv.block wr.heap.size (Nat.lt_of_lt_of_le hgl HBL.out.size) HNF.out).trans ((HBL.out.block wr.heap.size hgl).trans HG.out)
            obtain ⟨d0, d1, d2, d3, d4⟩ := HCE.out x2 hg2
            have HLL2 := Lib.hid (show ea2.map val = la from L2)
            have HA2 := Lib.hid A2; have HB2 := Lib.hid B2; have HFA2 := Lib.hid fa2; have HFB2 := Lib.hid fb2; have HAP2 := Lib.hid ap2; have HLO2 := Lib.hid low2
            have HOX2 := Lib.hid ((HZ.out x hxm).below low2)
            clear hM A2 B2 fa2 fb2 ap2 low2 L2 hmv hg2
            go_wp2_with fail
            go_roundw
            case rel => exact ⟨k + 1, ea2, eb, by go_num, by omega, (show Aside _ from ⟨HA2.out, HB2.out, HFA2.out, HFB2.out, HAP2.out, Nat.le_refl _, HLO2.out, by rw [HLL2.out, HIS.out]; exact (HOFF.out HN1.out (fun _ => HN2.out) HK5.out).symm, by rw [HLL2.out]; have := HL2.out; omega⟩)⟩
            case measure => simp [intOf]; omega
      · by_cases hk0 : x.kd = 0
        · have hk5 : ¬ x.kd = 5 := by omega
          by_cases hbig : 64 ≤ ea.length
          · have hbig2 : (64 : Int) ≤ (ea.length : Int) := by omega
            by_cases hn1 : x.nm = s
            · have e4 : (x.kd == (4 : Int)) = false := by simp [hk4]
              have e0 : (x.kd == (0 : Int)) = true := by simp [hk0]
              have e5 : (x.kd != (5 : Int)) = true := by simp [hk5]
              have t1 := texts_is hn1; have t1n : (x.nm.toList != s.toList) = false := by rw [bne, t1]; rfl
              have HK4 := Lib.hid hk4; have HK0 := Lib.hid hk0; have HK5 := Lib.hid hk5; have HN1 := Lib.hid hn1; clear hk4 hk0 hk5 hn1
              go_wp2_with fail
              rw [← HWW.out]
              with_reducible refine (HLI.out W1 (Below.refl _ _)).mono ?_
              rintro e x1 ⟨vl, rfl, hol, hbl⟩
              obtain ⟨Al, cl, rfl, -⟩ := own_rd hol
              have HBL := Lib.hid hbl
              have hgx := (hbl.block wr.heap.size hgl).trans HG.out
              obtain ⟨d0, d1, d2, d3, d4⟩ := HCE.out x1 hgx
              clear hol hbl hgx
              go_wp2_with fail
              go_roundw
              case rel => exact ⟨k + 1, ea, eb, by go_num, by omega, (show Aside _ from (HT1.out.below HBL.out).more (by omega))⟩
              case measure => simp [intOf]; omega
            · have e4 : (x.kd == (4 : Int)) = false := by simp [hk4]
              have e0 : (x.kd == (0 : Int)) = true := by simp [hk0]
              have e5 : (x.kd != (5 : Int)) = true := by simp [hk5]
              have t1 := texts_not hn1; have t1n : (x.nm.toList != s.toList) = true := by rw [bne, t1]; rfl
              have HK4 := Lib.hid hk4; have HK0 := Lib.hid hk0; have HK5 := Lib.hid hk5; have HN1 := Lib.hid hn1; clear hk4 hk0 hk5 hn1
              go_wp2_with fail
              rw [← HWW.out]
              with_reducible refine (HLI.out W1 (Below.refl _ _)).mono ?_
              rintro e x1 ⟨vl, rfl, hol, hbl⟩
              obtain ⟨Al, cl, rfl, -⟩ := own_rd hol
              have HBL := Lib.hid hbl
              have hgx := (hbl.block wr.heap.size hgl).trans HG.out
              obtain ⟨d0, d1, d2, d3, d4⟩ := HCE.out x1 hgx
              clear hol hbl hgx
              go_wp2_with fail
              go_roundw
              case rel => exact ⟨k + 1, ea, eb, by go_num, by omega, (show Aside _ from (HT1.out.below HBL.out).more (by omega))⟩
              case measure => simp [intOf]; omega
          · have hbig2 : ¬ (64 : Int) ≤ (ea.length : Int) := by omega
            by_cases hn1 : x.nm = s
            · have hdo := HOF.out hn1 (fun h => absurd h hk4) (fun h => by omega)
              have HDO2 := Lib.hid hdo.2
              have hcc := hdo.1
              subst hcc
              clear hdo
              have e4 : (x.kd == (4 : Int)) = false := by simp [hk4]
              have e0 : (x.kd == (0 : Int)) = true := by simp [hk0]
              have e5 : (x.kd != (5 : Int)) = true := by simp [hk5]
              have t1 := texts_is hn1; have t1n : (x.nm.toList != s.toList) = false := by rw [bne, t1]; rfl
              have HK4 := Lib.hid hk4; have HK0 := Lib.hid hk0; have HK5 := Lib.hid hk5; have HN1 := Lib.hid hn1; clear hk4 hk0 hk5 hn1
              go_wp2_with fail
              rw [← HWW.out]
              with_reducible refine (HLI.out W1 (Below.refl _ _)).mono ?_
              rintro e x1 ⟨vl, rfl, hol, hbl⟩
              obtain ⟨Al, cl, rfl, -⟩ := own_rd hol
              have HBL := Lib.hid hbl
              have hgx := (hbl.block wr.heap.size hgl).trans HG.out
              obtain ⟨d0, d1, d2, d3, d4⟩ := HCE.out x1 hgx
              clear hol hbl hgx
              go_wp2_with fail
              with_reducible refine (HDA.out _ HBL.out).mono ?_
              rintro e x2 hM
              obtain ⟨rfl, ea2, ⟨A2, B2, fa2, fb2, ap2, low2, L2⟩, hmv⟩ := TwoD.first (HT1.out.below HBL.out) hM 30000 HL2.out
              have hg2 := (hmv.block wr.heap.size (Nat.lt_of_lt_of_le hgl HBL.out.size) HNF.out).trans ((HBL.out.block wr.heap.size hgl).trans HG.out)
              obtain ⟨d0, d1, d2, d3, d4⟩ := HCE.out x2 hg2
              have HLL2 := Lib.hid (show ea2.map val = la from L2)
              have HA2 := Lib.hid A2; have HB2 := Lib.hid B2; have HFA2 := Lib.hid fa2; have HFB2 := Lib.hid fb2; have HAP2 := Lib.hid ap2; have HLO2 := Lib.hid low2
              have HOX2 := Lib.hid ((HZ.out x hxm).below low2)
              clear hM A2 B2 fa2 fb2 ap2 low2 L2 hmv hg2
              go_wp2_with fail
              with_reducible refine (HDB.out _ HB2.out HOX2.out).mono ?_
              rintro e x3 hM
              obtain ⟨rfl, eb2, T3⟩ := TwoD.second (s := s) (m := 30000 * (k + 1)) HA2.out HB2.out HFA2.out HFB2.out HAP2.out (Nat.le_refl _) HLO2.out hM (by rw [HLL2.out]; exact HDO2.out) (by rw [HLL2.out]; have := HL2.out; omega)
              have HT5 := Lib.hid T3
              clear hM T3
              go_wp2_with fail
              go_roundw
              case rel => exact ⟨k + 1, ea2, eb2, by go_num, by omega, (show Aside _ from HT5.out)⟩
              case measure => simp [intOf]; omega
            · have e4 : (x.kd == (4 : Int)) = false := by simp [hk4]
              have e0 : (x.kd == (0 : Int)) = true := by simp [hk0]
              have e5 : (x.kd != (5 : Int)) = true := by simp [hk5]
              have t1 := texts_not hn1; have t1n : (x.nm.toList != s.toList) = true := by rw [bne, t1]; rfl
              have HK4 := Lib.hid hk4; have HK0 := Lib.hid hk0; have HK5 := Lib.hid hk5; have HN1 := Lib.hid hn1; clear hk4 hk0 hk5 hn1
              go_wp2_with fail
              rw [← HWW.out]
              with_reducible refine (HLI.out W1 (Below.refl _ _)).mono ?_
              rintro e x1 ⟨vl, rfl, hol, hbl⟩
              obtain ⟨Al, cl, rfl, -⟩ := own_rd hol
              have HBL := Lib.hid hbl
              have hgx := (hbl.block wr.heap.size hgl).trans HG.out
              obtain ⟨d0, d1, d2, d3, d4⟩ := HCE.out x1 hgx
              clear hol hbl hgx
              go_wp2_with fail
              with_reducible refine (HDA.out _ HBL.out).mono ?_
              rintro e x2 hM
              obtain ⟨rfl, ea2, ⟨A2, B2, fa2, fb2, ap2, low2, L2⟩, hmv⟩ := TwoD.first (HT1.out.below HBL.out) hM 30000 HL2.out
              have hg2 := (hmv.block wr.heap.size (Nat.lt_of_lt_of_le hgl HBL.out.size) HNF.out).trans ((HBL.out.block wr.heap.size hgl).trans HG.out)
              obtain ⟨d0, d1, d2, d3, d4⟩ := HCE.out x2 hg2
              have HLL2 := Lib.hid (show ea2.map val = la from L2)
              have HA2 := Lib.hid A2; have HB2 := Lib.hid B2; have HFA2 := Lib.hid fa2; have HFB2 := Lib.hid fb2; have HAP2 := Lib.hid ap2; have HLO2 := Lib.hid low2
              have HOX2 := Lib.hid ((HZ.out x hxm).below low2)
              clear hM A2 B2 fa2 fb2 ap2 low2 L2 hmv hg2
              go_wp2_with fail
              go_roundw
              case rel => exact ⟨k + 1, ea2, eb, by go_num, by omega, (show Aside _ from ⟨HA2.out, HB2.out, HFA2.out, HFB2.out, HAP2.out, Nat.le_refl _, HLO2.out, by rw [HLL2.out, HIS.out]; exact (HOFF.out HN1.out (fun h => absurd h HK4.out) HK5.out).symm, by rw [HLL2.out]; have := HL2.out; omega⟩)⟩
              case measure => simp [intOf]; omega
        · by_cases hk5 : x.kd = 5
          · by_cases hn1 : x.nm = s
            · have hdo := HCR.out hk5
              have HDO2 := Lib.hid hdo.2
              have hcc := hdo.1
              subst hcc
              clear hdo
              have e4 : (x.kd == (4 : Int)) = false := by simp [hk4]
              have e0 : (x.kd == (0 : Int)) = false := by simp [hk0]
              have e5 : (x.kd != (5 : Int)) = false := by simp [hk5]
              have t1 := texts_is hn1; have t1n : (x.nm.toList != s.toList) = false := by rw [bne, t1]; rfl
              have HK4 := Lib.hid hk4; have HK0 := Lib.hid hk0; have HK5 := Lib.hid hk5; have HN1 := Lib.hid hn1; clear hk4 hk0 hk5 hn1
              go_wp2_with fail
              rw [← HWW.out]
              have HBL := Lib.hid (Below.refl W1.heap.size W1)
              with_reducible refine (HDA.out _ HBL.out).mono ?_
              rintro e x2 hM
              obtain ⟨rfl, ea2, ⟨A2, B2, fa2, fb2, ap2, low2, L2⟩, hmv⟩ := TwoD.first (HT1.out.below HBL.out) hM 30000 HL2.out
              have hg2 := (hmv.block wr.heap.size (Nat.lt_of_lt_of_le hgl HBL.out.size) HNF.out).trans ((HBL.out.block wr.heap.size hgl).trans HG.out)
              obtain ⟨d0, d1, d2, d3, d4⟩ := HCE.out x2 hg2
              have HLL2 := Lib.hid (show ea2.map val = la from L2)
              have HA2 := Lib.hid A2; have HB2 := Lib.hid B2; have HFA2 := Lib.hid fa2; have HFB2 := Lib.hid fb2; have HAP2 := Lib.hid ap2; have HLO2 := Lib.hid low2
              have HOX2 := Lib.hid ((HZ.out x hxm).below low2)
              clear hM A2 B2 fa2 fb2 ap2 low2 L2 hmv hg2
              go_wp2_with fail
              with_reducible refine (HDB.out _ HB2.out HOX2.out).mono ?_
              rintro e x3 hM
              obtain ⟨rfl, eb2, T3⟩ := TwoD.second (s := s) (m := 30000 * (k + 1)) HA2.out HB2.out HFA2.out HFB2.out HAP2.out (Nat.le_refl _) HLO2.out hM (by rw [HLL2.out]; exact HDO2.out) (by rw [HLL2.out]; have := HL2.out; omega)
              have HT5 := Lib.hid T3
              clear hM T3
              go_wp2_with fail
              go_roundw
              case rel => exact ⟨k + 1, ea2, eb2, by go_num, by omega, (show Aside _ from HT5.out)⟩
              case measure => simp [intOf]; omega
            · have hdo := HCR.out hk5
              have HDO2 := Lib.hid hdo.2
              have hcc := hdo.1
              subst hcc
              clear hdo
              have e4 : (x.kd == (4 : Int)) = false := by simp [hk4]
              have e0 : (x.kd == (0 : Int)) = false := by simp [hk0]
              have e5 : (x.kd != (5 : Int)) = false := by simp [hk5]
              have t1 := texts_not hn1; have t1n : (x.nm.toList != s.toList) = true := by rw [bne, t1]; rfl
              have HK4 := Lib.hid hk4; have HK0 := Lib.hid hk0; have HK5 := Lib.hid hk5; have HN1 := Lib.hid hn1; clear hk4 hk0 hk5 hn1
              go_wp2_with fail
              rw [← HWW.out]
              have HBL := Lib.hid (Below.refl W1.heap.size W1)
              with_reducible refine (HDA.out _ HBL.out).mono ?_
              rintro e x2 hM
              obtain ⟨rfl, ea2, ⟨A2, B2, fa2, fb2, ap2, low2, L2⟩, hmv⟩ := TwoD.first (HT1.out.below HBL.out) hM 30000 HL2.out
              have hg2 := (hmv.block wr.heap.size (Nat.lt_of_lt_of_le hgl HBL.out.size) HNF.out).trans ((HBL.out.block wr.heap.size hgl).trans HG.out)
              obtain ⟨d0, d1, d2, d3, d4⟩ := HCE.out x2 hg2
              have HLL2 := Lib.hid (show ea2.map val = la from L2)
              have HA2 := Lib.hid A2; have HB2 := Lib.hid B2; have HFA2 := Lib.hid fa2; have HFB2 := Lib.hid fb2; have HAP2 := Lib.hid ap2; have HLO2 := Lib.hid low2
              have HOX2 := Lib.hid ((HZ.out x hxm).below low2)
              clear hM A2 B2 fa2 fb2 ap2 low2 L2 hmv hg2
              go_wp2_with fail
              with_reducible refine (HDB.out _ HB2.out HOX2.out).mono ?_
              rintro e x3 hM
              obtain ⟨rfl, eb2, T3⟩ := TwoD.second (s := s) (m := 30000 * (k + 1)) HA2.out HB2.out HFA2.out HFB2.out HAP2.out (Nat.le_refl _) HLO2.out hM (by rw [HLL2.out]; exact HDO2.out) (by rw [HLL2.out]; have := HL2.out; omega)
              have HT5 := Lib.hid T3
              clear hM T3
              go_wp2_with fail
              go_roundw
              case rel => exact ⟨k + 1, ea2, eb2, by go_num, by omega, (show Aside _ from HT5.out)⟩
              case measure => simp [intOf]; omega
          · by_cases hn1 : x.nm = s
            · have hdo := HOF.out hn1 (fun h => absurd h hk4) (fun h => absurd h hk0)
              have HDO2 := Lib.hid hdo.2
              have hcc := hdo.1
              subst hcc
              clear hdo
              have e4 : (x.kd == (4 : Int)) = false := by simp [hk4]
              have e0 : (x.kd == (0 : Int)) = false := by simp [hk0]
              have e5 : (x.kd != (5 : Int)) = true := by simp [hk5]
              have t1 := texts_is hn1; have t1n : (x.nm.toList != s.toList) = false := by rw [bne, t1]; rfl
              have HK4 := Lib.hid hk4; have HK0 := Lib.hid hk0; have HK5 := Lib.hid hk5; have HN1 := Lib.hid hn1; clear hk4 hk0 hk5 hn1
              go_wp2_with fail
              rw [← HWW.out]
              have HBL := Lib.hid (Below.refl W1.heap.size W1)
              with_reducible refine (HDA.out _ HBL.out).mono ?_
              rintro e x2 hM
              obtain ⟨rfl, ea2, ⟨A2, B2, fa2, fb2, ap2, low2, L2⟩, hmv⟩ := TwoD.first (HT1.out.below HBL.out) hM 30000 HL2.out
              have hg2 := (hmv.block wr.heap.size (Nat.lt_of_lt_of_le hgl HBL.out.size) HNF.out).trans ((HBL.out.block wr.heap.size hgl).trans HG.out)
              obtain ⟨d0, d1, d2, d3, d4⟩ := HCE.out x2 hg2
              have HLL2 := Lib.hid (show ea2.map val = la from L2)
              have HA2 := Lib.hid A2; have HB2 := Lib.hid B2; have HFA2 := Lib.hid fa2; have HFB2 := Lib.hid fb2; have HAP2 := Lib.hid ap2; have HLO2 := Lib.hid low2
              have HOX2 := Lib.hid ((HZ.out x hxm).below low2)
              clear hM A2 B2 fa2 fb2 ap2 low2 L2 hmv hg2
              go_wp2_with fail
              with_reducible refine (HDB.out _ HB2.out HOX2.out).mono ?_
              rintro e x3 hM
              obtain ⟨rfl, eb2, T3⟩ := TwoD.second (s := s) (m := 30000 * (k + 1)) HA2.out HB2.out HFA2.out HFB2.out HAP2.out (Nat.le_refl _) HLO2.out hM (by rw [HLL2.out]; exact HDO2.out) (by rw [HLL2.out]; have := HL2.out; omega)
              have HT5 := Lib.hid T3
              clear hM T3
              go_wp2_with fail
              go_roundw
              case rel => exact ⟨k + 1, ea2, eb2, by go_num, by omega, (show Aside _ from HT5.out)⟩
              case measure => simp [intOf]; omega
            · have e4 : (x.kd == (4 : Int)) = false := by simp [hk4]
              have e0 : (x.kd == (0 : Int)) = false := by simp [hk0]
              have e5 : (x.kd != (5 : Int)) = true := by simp [hk5]
              have t1 := texts_not hn1; have t1n : (x.nm.toList != s.toList) = true := by rw [bne, t1]; rfl
              have HK4 := Lib.hid hk4; have HK0 := Lib.hid hk0; have HK5 := Lib.hid hk5; have HN1 := Lib.hid hn1; clear hk4 hk0 hk5 hn1
              go_wp2_with fail
              rw [← HWW.out]
              have HBL := Lib.hid (Below.refl W1.heap.size W1)
              with_reducible refine (HDA.out _ HBL.out).mono ?_
              rintro e x2 hM
              obtain ⟨rfl, ea2, ⟨A2, B2, fa2, fb2, ap2, low2, L2⟩, hmv⟩ := TwoD.first (HT1.out.below HBL.out) hM 30000 HL2.out
              have hg2 := (hmv.block wr.heap.size (Nat.lt_of_lt_of_le hgl HBL.out.size) HNF.out).trans ((HBL.out.block wr.heap.size hgl).trans HG.out)
              obtain ⟨d0, d1, d2, d3, d4⟩ := HCE.out x2 hg2
              have HLL2 := Lib.hid (show ea2.map val = la from L2)
              have HA2 := Lib.hid A2; have HB2 := Lib.hid B2; have HFA2 := Lib.hid fa2; have HFB2 := Lib.hid fb2; have HAP2 := Lib.hid ap2; have HLO2 := Lib.hid low2
              have HOX2 := Lib.hid ((HZ.out x hxm).below low2)
              clear hM A2 B2 fa2 fb2 ap2 low2 L2 hmv hg2
              go_wp2_with fail
              go_roundw
              case rel => exact ⟨k + 1, ea2, eb, by go_num, by omega, (show Aside _ from ⟨HA2.out, HB2.out, HFA2.out, HFB2.out, HAP2.out, Nat.le_refl _, HLO2.out, by rw [HLL2.out, HIS.out]; exact (HOFF.out HN1.out (fun h => absurd h HK4.out) HK5.out).symm, by rw [HLL2.out]; have := HL2.out; omega⟩)⟩
              case measure => simp [intOf]; omega
    · obtain rfl : k = K := by omega
      have hD := TD.out.a; have hC := TD.out.b; have hBW := TD.out.low
      have hlk : (lookE eb s).map val = (lookE ea s).map val := by rw [← look_val, ← look_val, TD.out.is, look_ofN]
      have hrd1 := dread_any hD s hs
      have hrd2 : ∀ W', Below wr.heap.size wr W' → Calls Try.prog 26 #[.pointer (some ⟨bdb, 0, none⟩), .string s] W' (ReadOut W' (lookE eb s)) := fun W' hb => dread_any (hC.below hb) s hs
      have hls1 := fun (W' : World) (hb : Below wr.heap.size wr W') => dlasts_any (hD.below hb) s hs
      have hls2 := fun (W' : World) (hb : Below wr.heap.size wr W') => dlasts_any (hC.below hb) s hs
      have hfin : ∀ W', Below wr.heap.size wr W' → Below W.heap.size W W' := fun W' hb => hBW.trans (hb.mono hBW.size)
      have HFIN := Lib.hid hfin
      have hlx : ∀ x, lookE ea s = some x → x.bs.length ≤ 16777216 := fun x hx => hD.len (lookE_mem hx).1
      generalize lookE ea s = oa at hlk hrd1 hls1 hlx
      generalize lookE eb s = ob at hlk hrd2 hls2
      clear hD hC hBW hfin TD
      cases oa with
      | none =>
        cases ob with
        | some y => cases hlk
        | none =>
          simp only at hls1 hls2
          have HR1 := Lib.hid hrd1; have HR2 := Lib.hid hrd2; have HS1 := Lib.hid hls1; have HS2 := Lib.hid hls2
          have HEQ := Lib.hid (fun W' => equal_yes none none 0 0 0 0 [] [] W' rfl rfl rfl (fun _ _ h => by simp at h) (fun _ _ h => by simp at h) (by decide))
          clear hrd1 hrd2 hls1 hls2 hlk
          go_wp2_with fail
          with_reducible refine HR1.out.mono ?_
          unfold ReadOut
          rintro e x1 ⟨rfl, rfl⟩
          go_wp2_with fail
          with_reducible refine (HR2.out wr (Below.refl _ _)).mono ?_
          unfold ReadOut
          rintro e x1 ⟨rfl, rfl⟩
          go_wp2_with fail
          with_reducible refine (HS1.out wr (Below.refl _ _)).mono ?_
          rintro e x1 ⟨rfl, rfl⟩
          go_wp2_with fail
          with_reducible refine (HS2.out wr (Below.refl _ _)).mono ?_
          rintro e x1 ⟨rfl, rfl⟩
          go_wp2_with fail
          with_reducible refine (HEQ.out wr).mono ?_
          rintro e x1 ⟨rfl, m, rfl⟩
          go_wp2
          go_ret
          exact ⟨rfl, HFIN.out _ (below_drewN (Below.refl _ _) m)⟩
      | some x =>
        cases ob with
        | none => cases hlk
        | some y =>
          have hv : val y = val x := by injection hlk
          have y2 : y.bs = x.bs := congrArg (fun f => f.2.1) hv
          have y3 : y.n = x.n := congrArg (fun f => f.2.2) hv
          have hlx := hlx x rfl
          unfold ReadOut at hrd1 hrd2
          simp only at hrd1 hrd2 hls1 hls2
          rw [y2] at hrd2
          rw [y3] at hls2
          have HR1 := Lib.hid hrd1; have HR2 := Lib.hid hrd2; have HS1 := Lib.hid hls1; have HS2 := Lib.hid hls2
          clear hrd1 hrd2 hls1 hls2 hlk hv y2 y3
          generalize x.bs = bx at *
          generalize x.n = mx at *
          go_wp2_with fail
          with_reducible refine HR1.out.mono ?_
          rintro e x1 ⟨A1, c1, rfl, ho1, hb1⟩
          obtain ⟨A1', c1', e1, hr1, -⟩ := own_bytes ho1
          injection e1 with e1 _ e2; subst e1; subst e2
          have HO1 := Lib.hid hr1; have HX1 := Lib.hid hb1
          clear ho1 hr1 hb1
          go_wp2_with fail
          with_reducible refine (HR2.out x1 HX1.out).mono ?_
          rintro e x2 ⟨A2, c2, rfl, ho2, hb2⟩
          obtain ⟨A2', c2', e2, hr2, -⟩ := own_bytes ho2
          injection e2 with e2 _ e3; subst e2; subst e3
          have HO2 := Lib.hid hr2; have HO12 := Lib.hid (HO1.out.below hb2); have HX2 := Lib.hid (HX1.out.trans (hb2.mono HX1.out.size))
          clear ho2 hr2 hb2
          go_wp2_with fail
          with_reducible refine (HS1.out x2 HX2.out).mono ?_
          rintro e x3 ⟨rfl, rfl⟩
          go_wp2_with fail
          with_reducible refine (HS2.out x2 HX2.out).mono ?_
          rintro e x3 ⟨rfl, rfl⟩
          have HEQ := Lib.hid (equal_yes A1 A2 c1 c2 bx.length bx.length bx bx x2 rfl rfl rfl HO12.out HO2.out (by omega))
          go_wp2_with fail
          with_reducible refine HEQ.out.mono ?_
          rintro e x3 ⟨rfl, m, rfl⟩
          go_wp2
          go_ret
          exact ⟨rfl, HFIN.out _ (below_drewN HX2.out m)⟩
end

set_option maxRecDepth 100000 in
theorem diskApart_lifted (os : Os) (started : os.Started) (H : Type) (enc : TypeId × Value → H) :
    ReturnsInHanded {} Try.checked os 6 .any (Rows.diskApartSpec.pre6 enc Try.prog Try.f6 Rows.diskApartRow.domain false) (Rows.diskApartSpec.post enc Try.prog Try.f6 false true false false) := by
  refine returnsInHanded_of_change (C := Try.checked) ownKn started (by kernel_rfl) Try.func6
    (ChangeSpec.witness6 (enc := enc) (C := Try.checked) false ⟨#[], #[.slice none 0 0, .string ⟨#[]⟩], []⟩ 8 (by kernel_rfl) (by kernel_rfl) (by kernel_rfl) (by kernel_rfl)) ?_
  intro W base args ds gs before hval0 hW hcnd _
  have hval : ∀ (j : Nat) t v, Try.f6.params[j]? = some t → args[j]? = some v → Value.okWide Try.prog W .any base t v := hval0
  have hW' := hW
  obtain ⟨p, q, hA0, hV, rfl, hfz, hnd⟩ := hW
  have hA : DataW.TrodAll enc Try.prog W 0 (fun _ => true) true Try.f6.params.toList args.toList ds p := hA0
  rw [Try.params6] at hA hval
  obtain ⟨v0, vs0, d0, ds0, p0, q0, hargs, rfl, rfl, h0, r0⟩ := trodAll_cons hA
  obtain ⟨v1, vs1, d1, ds1, p1, q1, rfl, rfl, rfl, h1, r1⟩ := trodAll_cons r0
  obtain ⟨rfl, rfl, rfl⟩ := trodAll_nil r1
  obtain rfl : args = #[v0, v1] := by cases args; simp_all
  obtain ⟨rfl, rfl⟩ := trodVars_none hV
  obtain ⟨A0, c0, l0, rfl, hm0, hx0, ho0⟩ := open_ops (hval 0 36 v0 rfl rfl) h0
  obtain ⟨s1, rfl, rfl, rfl, ws1⟩ := open_string Try.underlying9 (hval 1 9 v1 rfl rfl) h1
  clear hA0 hval0 hA
  unfold maxLen at hm0
  refine (diskApart_walk A0 c0 l0 s1 W hx0 hm0.1 hm0.2 ho0 ws1).mono fun e W' ⟨he, hg⟩ => ?_
  subst he
  exact ⟨_, rfl, law_end laidOut (by kernel_rfl) (by kernel_rfl) Try.underlying4 rfl hW' ⟨rfl, rfl, rfl⟩ hg⟩

theorem diskApart_holds : Rows.DiskApartSaid :=
  OpenClaim.holds_of_wide 6 Try.f6 rfl rfl rfl rfl rfl rfl rfl ⟨rfl, rfl, rfl, rfl, rfl⟩ rfl rfl rfl rfl rfl (by kernel_rfl) Try.func6 (by kernel_rfl)
    (of_decide_eq_true (by kernel_rfl)) (by unfold Func.isWrapper; first | (rw [if_pos (by decide +kernel)]; kernel_rfl) | (rw [if_neg (by decide +kernel)]; exact ⟨rfl, rfl⟩))
    (fun os started H enc _ => diskApart_lifted os started H enc)
#print axioms diskApart_holds

end Go.Proofs.Ytinjdlplbficiaa
