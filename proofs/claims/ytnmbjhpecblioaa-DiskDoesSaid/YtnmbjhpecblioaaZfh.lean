/-
  The plain answers' disk: Append.
-/
import Derived.Deep.RegionHeld3
import Derived.Test.YtnmbjhpecblioaaZfg
import Derived.Test.YtnmbjhpecblioaaDp
namespace Go.Proofs.Ytnmbjhpecblioaa
set_option linter.unusedVariables false
set_option linter.unusedSimpArgs false
open Go.RowKit
theorem put_upd {f x : Fl} : ∀ {L : List Fl}, (L.Pairwise fun a b => bl a.1 < bl b.1) → lookL L x.1 = some f → putL L x = updL L x
  | [], _, h => by simp [lookL] at h
  | y :: r, hp, h => by
    rw [List.pairwise_cons] at hp
    by_cases hy : y.1 = x.1
    · have hr : ∀ g ∈ r, ¬ g.1 = x.1 := fun g hg e => by have := hp.1 g hg; rw [e, hy] at this; exact ltB_irrefl _ this
      have hd : delL (y :: r) x.1 = r := by
        unfold delL
        rw [List.filter_cons, if_neg (by simp [hy])]
        exact List.filter_eq_self.2 fun g hg => by simp [hr g hg]
      unfold putL updL
      rw [hd, List.map_cons, if_pos hy]
      have hm : (r.map fun g => if g.1 = x.1 then x else g) = r := (List.map_congr_left fun g hg => if_neg (hr g hg)).trans (List.map_id r)
      rw [hm]
      cases r with
      | nil => rfl
      | cons z r => unfold insL; rw [if_pos (by rw [← hy]; exact hp.1 z (by simp))]
    · have h' : lookL r x.1 = some f := by
        unfold lookL at h ⊢
        rw [List.find?_cons] at h
        simpa [hy] using h
      have hf := List.mem_of_find?_eq_some h'
      have hfx : f.1 = x.1 := by simpa using List.find?_some h'
      have ih := put_upd hp.2 h'
      have hlt := hp.1 f hf
      rw [hfx] at hlt
      unfold putL updL delL at ih ⊢
      rw [List.filter_cons, if_pos (by simp [hy]), List.map_cons, if_neg hy, ← ih]
      conv => lhs; unfold insL
      rw [if_neg (ltB_asymm hlt)]
section
set_option maxHeartbeats 3200000
set_option maxRecDepth 100000
variable {w : World} {p room : Nat} {fv : Value} {ys : List RF}
theorem rappend_any (h : RefE w p room fv ys) (s : ByteArray) (hs : s.size ≤ maxLen) (A : Option Addr) (c : Nat) (bb : List UInt8) (hx : Rd w A (bb.map Bv)) (hbl : bb.length ≤ 100000) (hp : (ys.map rval).Pairwise fun a b => bl a.1 < bl b.1) :
    Calls Try.prog 27 #[.pointer (some ⟨p, 0, none⟩), .string s, .slice A bb.length c] w (RefOut2 w p room fv ys (appD room (ys.map rval) s bb)) := by
  have HA := Lib.hid (rat_any h s); have H := Lib.hid h; have HP := Lib.hid hp
  have HNM := Lib.hid (fun W => rname_any s W hs)
  obtain ⟨L, hLd⟩ : ∃ L, L = ys.map rval := ⟨_, rfl⟩
  obtain ⟨R, hR⟩ : ∃ R, R = appD room L s bb := ⟨_, rfl⟩
  rw [← hLd, ← hR]
  have HR := Lib.hid hR; have HLD := Lib.hid hLd; have HX := Lib.hid hx
  obtain ⟨T, hT⟩ : ∃ T, T = lenL L := ⟨_, rfl⟩
  have HT := Lib.hid hT
  have hT1 : T ≤ room := by rw [hT, hLd]; exact h.fits.1
  have hT2 : room ≤ 16777216 := h.fits.2.1
  have hlen : L.length = ys.length := by rw [hLd, List.length_map]
  have hl64 := h.fits.2.2
  obtain ⟨m, hm⟩ : ∃ m, m = bb.length := ⟨_, rfl⟩
  have HM := Lib.hid hm
  rw [← hm] at hbl ⊢
  have q1 : IntKind.i64.wrap ((room : Int) - (T : Int)) = (room : Int) - (T : Int) := IntWalk.i64_in _ (by omega)
  clear h hp hR hLd hx hT hm
  go_enter Try.func27, Try.ntmps27
  go_wp2_with fail
  with_reducible refine HA.out.mono ?_
  rintro e w1 ⟨hres, hb1⟩
  have HB := Lib.hid hb1
  have h1 := H.out.below hb1
  have H1 := Lib.hid h1
  have hsame : ∀ (r : Int) (W : World), Below w1.heap.size w1 W → R = (r, L) → RefOut2 w p room fv ys R (.returned (.int .i64 r)) W := fun r W hb hr => by
    rw [hr]
    have hb' := HB.out.trans (hb.mono HB.out.size)
    exact ⟨rfl, ys, fv, HLD.out.symm, H.out.below hb', ⟨hb'.os, hb'.tape, hb'.output, hb'.size, fun k hk _ => hb'.block k hk⟩, fun k hk => .inl hk⟩
  have HSAME := Lib.hid hsame
  have hC : ∀ W' : World, Below w1.heap.size w1 W' → W'.cell? ⟨p, 0, none⟩ = some (.int .i64 (room : Nat)) ∧ W'.cell? ⟨p, 1, none⟩ = some fv := fun W' hb => by
    have h2 := h1.below hb
    have c0 := cell_blk h2.box 0; have c1 := cell_blk h2.box 1
    simp only [List.getElem?_toArray, List.getElem?_cons_succ, List.getElem?_cons_zero] at c0 c1
    exact ⟨c0, c1⟩
  have HC := Lib.hid hC
  obtain ⟨c0, c1⟩ := hC w1 (Below.refl _ _)
  have hSZ : ∀ W' : World, Below w1.heap.size w1 W' → Calls Try.prog 34 #[.pointer (some ⟨p, 0, none⟩)] W' fun e w' => e = .returned (.int .i64 (T : Nat)) ∧ Below W'.heap.size W' w' := fun W' hb => by
    have := rdsize_any (h1.below hb)
    rw [← HLD.out, ← HT.out] at this
    exact this
  have HSZ := Lib.hid hSZ
  have HBc := Lib.hid (Below.refl w1.heap.size w1)
  obtain ⟨Af0, cf0, rfl, -, hc1, -⟩ := own_rd_f h1.row
  have HRES := Lib.hid hres
  clear hb1 h1 hsame hC hSZ hres HA
  rcases HRES.out with ⟨rfl, hn⟩ | ⟨k, y, hk, hn, rfl⟩
  · have hl : lookL L s = none := by rw [HLD.out]; exact lookR_none hn
    have HL := Lib.hid hl
    clear hn hl
    go_wp2_with fail
    refine (HNM.out w1).mono ?_
    rintro e w2 ⟨rfl, rfl⟩
    cases hTi : titleB (bl s) with
    | false =>
      have HTI := Lib.hid hTi; clear hTi
      go_wp2
      go_ret
      exact HSAME.out _ _ (Below.refl _ _) (by rw [HR.out]; unfold appD; rw [if_pos HTI.out])
    | true =>
      have HTI := Lib.hid hTi; clear hTi
      by_cases hbig : 64 ≤ ys.length
      · have g1 : (64 : Int) ≤ (ys.length : Int) := by omega
        go_wp2
        go_ret
        exact HSAME.out _ _ (Below.refl _ _) (by rw [HR.out]; unfold appD; rw [if_neg (by rw [HTI.out]; decide), HL.out]; simp only; rw [if_pos (by omega)])
      · have g1 : ¬ (64 : Int) ≤ (ys.length : Int) := by omega
        by_cases hr : room < T + m
        · have q2 : decide ((room : Int) - (T : Int) < (m : Int)) = true := decide_eq_true (by omega)
          go_wp2
          go_region_held3 (fun W' => W'.cell? ⟨p, 0, none⟩ = some (.int .i64 (room : Nat)) ∧ W'.cell? ⟨p, 1, none⟩ = some (.slice Af0 ys.length cf0)) (first | exact HC.out _ HBc.out | exact HC.out _ (below_drewN HBc.out _)) (first
            | (go_at_call 34; (with_reducible refine (HSZ.out _ ?_).mono ?_); (focus (first | exact HBc.out | exact below_drewN HBc.out _)); go_must (rintro e wq ⟨rfl, hbq⟩; (try (have hq1 := undrewD hbq; clear hbq; have hbq := hq1; clear hq1)); have hq1 := HBc.out.trans (hbq.mono HBc.out.size); have HBc := Lib.hid hq1; clear hq1 hbq))
            | fail)
          all_goals
            go_wp2
            go_ret
            exact HSAME.out _ _ HBc.out (by rw [HR.out]; unfold appD; rw [if_neg (by rw [HTI.out]; decide), HL.out]; simp only; rw [if_neg (by omega), if_pos (by rw [← HT.out, ← HM.out]; exact hr)])
        · have q2 : decide ((room : Int) - (T : Int) < (m : Int)) = false := decide_eq_false (by omega)
          go_wp2
          go_region_held3 (fun W' => W'.cell? ⟨p, 0, none⟩ = some (.int .i64 (room : Nat)) ∧ W'.cell? ⟨p, 1, none⟩ = some (.slice Af0 ys.length cf0)) (first | exact HC.out _ HBc.out | exact HC.out _ (below_drewN HBc.out _)) (first
            | (go_at_call 34; (with_reducible refine (HSZ.out _ ?_).mono ?_); (focus (first | exact HBc.out | exact below_drewN HBc.out _)); go_must (rintro e wq ⟨rfl, hbq⟩; (try (have hq1 := undrewD hbq; clear hbq; have hbq := hq1; clear hq1)); have hq1 := HBc.out.trans (hbq.mono HBc.out.size); have HBc := Lib.hid hq1; clear hq1 hbq))
            | fail)
          obtain ⟨B, hB⟩ : ∃ B, B = wq.heap.size := ⟨_, rfl⟩
          obtain ⟨W5, hW5⟩ : ∃ W5, W5 = wq.alloc (.cells #[.string s, .slice none 0 0, .int .i64 0] 66) := ⟨_, rfl⟩
          have hb5 : Below w1.heap.size w1 W5 := by rw [hW5]; exact HBc.out.alloc HBc.out.size _
          have hg5 : W5.heap[wq.heap.size]? = some (.cells #[.string s, .slice none 0 0, .int .i64 ((0 : Nat) : Int)] 66 (0, 0)) := by rw [hW5]; exact heap_alloc_new wq _
          have hz5 : W5.heap.size = wq.heap.size + 1 := by rw [hW5, World.size_alloc]
          have hfr : Rd W5 none (([] : List UInt8).map Bv) := fun _ _ h => by simp at h
          have hxq := (HX.out.below HB.out).below hb5
          have hj := join_two_own W5 none A 0 c ([] : List UInt8) bb hfr hxq (by rw [← HM.out, List.length_nil]; omega)
          rw [hz5, ← HM.out, List.length_nil] at hj
          have HJ := Lib.hid hj
          clear hj
          have hbw5 := HB.out.trans (hb5.mono HB.out.size)
          have HG5 := Lib.hid hg5; have HB5 := Lib.hid hb5; have HBW5 := Lib.hid hbw5; have HW5 := Lib.hid hW5; have HZ5 := Lib.hid hz5
          have e0 := cell_blk hg5 0; have e1 := cell_blk hg5 1; have e2 := cell_blk hg5 2
          simp only [List.getElem?_toArray, List.getElem?_cons_succ, List.getElem?_cons_zero] at e0 e1 e2
          have hbq := HBc.out.size
          have HTS := Lib.hid (show s.size ≤ 32 from by
            have := HTI.out
            unfold titleB at this
            simp only [Bool.and_eq_true, decide_eq_true_eq, bl_len] at this
            exact this.1.2)
          have HPUT := Lib.hid (fun (v6 : Value) => show (putR ys ⟨s, v6, ([] : List UInt8) ++ bb, 0⟩).map rval = putL L (s, ([] : List UInt8) ++ bb, 0) from by
            rw [put_rval HP.out, HLD.out]; rfl)
          have HFIT := Lib.hid (fun (v6 : Value) => show lenL ((putR ys ⟨s, v6, ([] : List UInt8) ++ bb, 0⟩).map rval) ≤ room ∧ (putR ys ⟨s, v6, ([] : List UInt8) ++ bb, 0⟩).length ≤ 64 from by
            have a0 := HPUT.out v6
            have a1 := put_sum L (s, ([] : List UInt8) ++ bb, 0)
            have a2 := put_len L (s, ([] : List UInt8) ++ bb, 0)
            have a9 : (([] : List UInt8) ++ bb).length = m := by rw [List.nil_append, HM.out]
            simp only [a9] at a1
            have a1 : lenL (putL L (s, ([] : List UInt8) ++ bb, 0)) ≤ room := by rw [← HT.out] at a1; omega
            have a2 : (putL L (s, ([] : List UInt8) ++ bb, 0)).length ≤ 64 := by omega
            have a3 : ((putR ys ⟨s, v6, ([] : List UInt8) ++ bb, 0⟩).map rval).length = (putR ys ⟨s, v6, ([] : List UInt8) ++ bb, 0⟩).length := List.length_map _
            rw [← a3, a0]
            exact ⟨a1, a2⟩)
          clear hxq hg5 hb5 hbw5 hW5 hz5 hfr hB
          go_wp2_with (first
            | (go_at_call 24; go_loud ((rw [← HW5.out]); refine HJ.out.mono ?_; rintro e w6 ⟨v6, rfl, ho6, hb6⟩; have hb56 : Below W5.heap.size W5 w6 := (HZ5.out.symm ▸ hb6); have hg6 := (hb56.block wq.heap.size (blk_lt HG5.out)).trans HG5.out; obtain ⟨A6, c6, ev6, -, -, -, -⟩ := own_rd ho6; subst ev6; have hby6 : BytesAt w6 (.slice A6 (([] : List UInt8) ++ bb).length c6) (([] : List UInt8) ++ bb) := .inl (ho6.lower (Nat.zero_le _)); have HLOW := Lib.hid (fun g hg => (ho6.lt g hg).1); have HFITv := Lib.hid (HFIT.out (.slice A6 (([] : List UInt8) ++ bb).length c6)); have HPRv := Lib.hid (HPUT.out (.slice A6 (([] : List UInt8) ++ bb).length c6)); obtain ⟨m6, hm6⟩ : ∃ m6, m6 = (([] : List UInt8) ++ bb).length := ⟨_, rfl⟩; rw [← hm6] at hby6 HLOW HFITv HPRv ⊢; have HB6 := Lib.hid (HB5.out.trans (hb56.mono HB5.out.size)); have hR7 : RefE (w6.setCell ⟨wq.heap.size, 1, none⟩ (.slice A6 m6 c6)) p room _ ys := (H1.out.below HB6.out).moved fun g hg => set_other _ _ _ _ fun e => absurd (H1.out.lt hg) (by omega); have hby7 : BytesAt (w6.setCell ⟨wq.heap.size, 1, none⟩ (.slice A6 m6 c6)) (.slice A6 m6 c6) (([] : List UInt8) ++ bb) := hby6.moved fun g hg => set_other _ _ _ _ fun e => hby6.ne hg6 (by decide) (by rw [← e]; exact hg); have HP7 := Lib.hid (rput_any hR7 ⟨s, .slice A6 m6 c6, ([] : List UInt8) ++ bb, 0⟩ A6 m6 c6 rfl hby7 ⟨Nat.zero_le _, HTS.out⟩ HFITv.out); have g0 := cell_blk hg6 0; have g1 := cell_blk hg6 1; have g2 := cell_blk hg6 2; have u1 := free_blk hg6 1; simp only [List.getElem?_toArray, List.getElem?_cons_succ, List.getElem?_cons_zero] at g0 g1 g2; clear hb6 hb56 hg6 ho6 hby6 hR7 hby7 hm6))
            | (go_at_call 40; go_loud (refine HP7.out.mono ?_; rintro e w8 ⟨rfl, fv8, R8, M8, F8⟩; have HR8 := Lib.hid R8; have HM8 := Lib.hid M8; have HF8 := Lib.hid F8; clear R8 M8 F8))
            | fail)
          go_ret
          rw [HR.out]
          refine ⟨(by unfold appD; rw [if_neg (by rw [HTI.out]; decide), HL.out]; simp only; rw [if_neg (by omega), if_neg (by rw [← HT.out, ← HM.out]; exact hr)]; rfl), _, fv8, HPRv.out.trans (by unfold appD; rw [if_neg (by rw [HTI.out]; decide), HL.out]; simp only; rw [if_neg (by omega), if_neg (by rw [← HT.out, ← HM.out]; exact hr)]; rfl), HR8.out, ?_, fun k hk => ?_⟩
          · have m6' : Mv (fun k => k = p) w w6 := ⟨(HB.out.trans (HB6.out.mono HB.out.size)).os, (HB.out.trans (HB6.out.mono HB.out.size)).tape, (HB.out.trans (HB6.out.mono HB.out.size)).output, (HB.out.trans (HB6.out.mono HB.out.size)).size, fun k hk _ => (HB.out.trans (HB6.out.mono HB.out.size)).block k hk⟩
            have hs1 := HB.out.size
            have m7 : Mv (fun k => k = p) w (w6.setCell ⟨wq.heap.size, 1, none⟩ (.slice A6 m6 c6)) := ⟨m6'.os, m6'.tape, m6'.output, by rw [set_size]; exact m6'.size, fun k hk hn => (set_other _ _ _ _ (by omega)).trans (m6'.block k hk hn)⟩
            exact (m7.trans HM8.out (fun _ _ h => h)).mono fun k _ e => .inl e
          · have hs1 := HB.out.size; have hs6 := HB6.out.size; have hz := HZ5.out
            rcases HF8.out k hk with hf | hf | hf
            · exact .inl hf
            · rw [set_size] at hf; exact .inr (by omega)
            · have := HLOW.out k hf; exact .inr (by omega)
  · subst hn
    have hl : lookL L y.nm = some (rval y) := by rw [HLD.out]; exact lookR_some HP.out hk rfl
    have HL := Lib.hid hl
    have hkl : k < ys.length := (List.getElem?_eq_some_iff.1 hk).1
    have k0 : ¬ (k : Int) < 0 := by omega
    have k9 : decide ((k : Int) < 0) = false := decide_eq_false k0
    have k00 : (0 : Int) ≤ (k : Int) := by omega
    have k1 : (k : Int) < (ys.length : Int) := by omega
    have k2 : (k : Int) ≤ (cf0 : Int) := by omega
    have hyb := H1.out.at_ y (List.mem_of_getElem? hk)
    have HYB := Lib.hid hyb
    have HYE := Lib.hid (H1.out.each y (List.mem_of_getElem? hk)).1
    obtain ⟨Ay, cy, hyv, -, -, -⟩ := hyb.rd
    have HYV := Lib.hid hyv
    obtain ⟨my, hmy⟩ : ∃ my, my = y.bs.length := ⟨_, rfl⟩
    have HMY := Lib.hid hmy
    have HK := Lib.hid hk
    have hmy2 : my ≤ 16777216 := by
      have b1 := del_sum hl
      have b3 : (rval y).2.1.length = my := HMY.out.symm
      rw [b3, ← HT.out] at b1; omega
    clear hl hyb hyv hmy hk
    go_wp2_with fail
    refine (HNM.out w1).mono ?_
    rintro e w2 ⟨rfl, rfl⟩
    cases hTi : titleB (bl y.nm) with
    | false =>
      have HTI := Lib.hid hTi; clear hTi
      go_wp2
      go_ret
      exact HSAME.out _ _ (Below.refl _ _) (by rw [HR.out]; unfold appD; rw [if_pos HTI.out])
    | true =>
      have HTI := Lib.hid hTi; clear hTi
      by_cases hr : room < T + m
      · have q2 : decide ((room : Int) - (T : Int) < (m : Int)) = true := decide_eq_true (by omega)
        go_wp2
        go_region_held3 (fun W' => W'.cell? ⟨p, 0, none⟩ = some (.int .i64 (room : Nat)) ∧ W'.cell? ⟨p, 1, none⟩ = some (.slice Af0 ys.length cf0)) (first | exact HC.out _ HBc.out | exact HC.out _ (below_drewN HBc.out _)) (first
          | (go_at_call 34; (with_reducible refine (HSZ.out _ ?_).mono ?_); (focus (first | exact HBc.out | exact below_drewN HBc.out _)); go_must (rintro e wq ⟨rfl, hbq⟩; (try (have hq1 := undrewD hbq; clear hbq; have hbq := hq1; clear hq1)); have hq1 := HBc.out.trans (hbq.mono HBc.out.size); have HBc := Lib.hid hq1; clear hq1 hbq))
          | fail)
        all_goals
          go_wp2
          go_ret
          exact HSAME.out _ _ HBc.out (by rw [HR.out]; unfold appD; rw [if_neg (by rw [HTI.out]; decide), HL.out]; simp only; rw [if_pos (by rw [← HT.out, ← HM.out]; exact hr)])
      · have q2 : decide ((room : Int) - (T : Int) < (m : Int)) = false := decide_eq_false (by omega)
        go_wp2
        go_region_held3 (fun W' => W'.cell? ⟨p, 0, none⟩ = some (.int .i64 (room : Nat)) ∧ W'.cell? ⟨p, 1, none⟩ = some (.slice Af0 ys.length cf0)) (first | exact HC.out _ HBc.out | exact HC.out _ (below_drewN HBc.out _)) (first
          | (go_at_call 34; (with_reducible refine (HSZ.out _ ?_).mono ?_); (focus (first | exact HBc.out | exact below_drewN HBc.out _)); go_must (rintro e wq ⟨rfl, hbq⟩; (try (have hq1 := undrewD hbq; clear hbq; have hbq := hq1; clear hq1)); have hq1 := HBc.out.trans (hbq.mono HBc.out.size); have HBc := Lib.hid hq1; clear hq1 hbq))
          | fail)
        obtain ⟨W4, hW4⟩ : ∃ W4, W4 = wq.alloc (.cells #[.string y.nm, .slice none 0 0, .int .i64 0] 66) := ⟨_, rfl⟩
        have hb4 : Below w1.heap.size w1 W4 := by rw [hW4]; exact HBc.out.alloc HBc.out.size _
        have hg4 : W4.heap[wq.heap.size]? = some (.cells #[.string y.nm, .slice none 0 0, .int .i64 0] 66 (0, 0)) := by rw [hW4]; exact heap_alloc_new wq _
        have hz4 : W4.heap.size = wq.heap.size + 1 := by rw [hW4, World.size_alloc]
        obtain ⟨W5, hW5⟩ : ∃ W5, W5 = wq.alloc (.cells #[.string y.nm, .slice Ay my cy, .int .i64 (y.n : Nat)] 66) := ⟨_, rfl⟩
        have hz5 : W5.heap.size = wq.heap.size + 1 := by rw [hW5, World.size_alloc]
        have hbs := HBc.out.size
        have hb5 : Below w1.heap.size w1 W5 := by rw [hW5]; exact HBc.out.alloc HBc.out.size _
        have hg5 : W5.heap[wq.heap.size]? = some (.cells #[.string y.nm, .slice Ay my cy, .int .i64 (y.n : Nat)] 66 (0, 0)) := by rw [hW5]; exact heap_alloc_new wq _
        have hfr : Rd W5 Ay (y.bs.map Bv) := by
          obtain ⟨A', c', e', hr', -, -⟩ := (HYB.out.moved (w' := W5) fun g hg => hb5.block g (HYB.out.lt hg)).rd
          have := HYV.out.symm.trans e'
          injection this with e1
          subst e1; exact hr'
        have h4 := H1.out.below hb4
        obtain ⟨A', c', e', hr', -, -⟩ := own_rd_f h4.row
        injection e' with e1 e2 e3
        subst e1; subst e3
        obtain ⟨b, off, rfl, hcl⟩ := hr'.flat fcells_len (by decide) HK.out
        have d0 := hcl 0 _ rfl; have d1 := hcl 1 _ rfl; have d2 := hcl 2 _ rfl
        rw [Nat.add_zero] at d0
        rw [HYV.out, ← HMY.out] at d1
        have l0 := cell_blk hg4 0; have l1 := cell_blk hg4 1; have l2 := cell_blk hg4 2
        have v0 := free_blk hg4 0; have v1 := free_blk hg4 1; have v2 := free_blk hg4 2
        obtain ⟨c04, c14⟩ := HC.out _ hb4
        simp only [List.getElem?_toArray, List.getElem?_cons_succ, List.getElem?_cons_zero] at l0 l1 l2
        rw [hW4] at d0 d1 d2 l0 l1 l2 v0 v1 v2 c04 c14
        clear hr' hcl h4 hg4 hz4 hb4
        have hxq := (HX.out.below HB.out).below hb5
        have hj := join_two_own W5 Ay A cy c y.bs bb hfr hxq (by rw [← HM.out, ← HMY.out]; omega)
        rw [hz5, ← HM.out, ← HMY.out] at hj
        have HJ := Lib.hid hj
        clear hj
        have hbw5 := HB.out.trans (hb5.mono HB.out.size)
        have HG5 := Lib.hid hg5; have HB5 := Lib.hid hb5; have HBW5 := Lib.hid hbw5; have HW5 := Lib.hid hW5; have HZ5 := Lib.hid hz5
        have e0 := cell_blk hg5 0; have e1 := cell_blk hg5 1; have e2 := cell_blk hg5 2
        simp only [List.getElem?_toArray, List.getElem?_cons_succ, List.getElem?_cons_zero] at e0 e1 e2
        have hbq := HBc.out.size
        have HTS := Lib.hid (show y.nm.size ≤ 32 from by
          have := HTI.out
          unfold titleB at this
          simp only [Bool.and_eq_true, decide_eq_true_eq, bl_len] at this
          exact this.1.2)
        have HPUT := Lib.hid (fun (v6 : Value) => show (putR ys ⟨y.nm, v6, y.bs ++ bb, y.n⟩).map rval = putL L (y.nm, y.bs ++ bb, y.n) from by
          rw [put_rval HP.out, HLD.out]; rfl)
        have HFIT := Lib.hid (fun (v6 : Value) => show lenL ((putR ys ⟨y.nm, v6, y.bs ++ bb, y.n⟩).map rval) ≤ room ∧ (putR ys ⟨y.nm, v6, y.bs ++ bb, y.n⟩).length ≤ 64 from by
          have a0 := HPUT.out v6
          have b1 := del_sum HL.out
          have b2 := del_lt HL.out
          have b3 : (rval y).2.1.length = my := HMY.out.symm
          have b4 : (y.bs ++ bb).length = my + m := by rw [List.length_append, ← HMY.out, ← HM.out]
          have a1 : lenL (putL L (y.nm, y.bs ++ bb, y.n)) ≤ room := by
            unfold putL; rw [ins_sum]; simp only [b4]; rw [b3, ← HT.out] at b1; omega
          have a2 : (putL L (y.nm, y.bs ++ bb, y.n)).length ≤ 64 := by
            unfold putL; rw [ins_len]; simp only; omega
          have a3 : ((putR ys ⟨y.nm, v6, y.bs ++ bb, y.n⟩).map rval).length = (putR ys ⟨y.nm, v6, y.bs ++ bb, y.n⟩).length := List.length_map _
          rw [← a3, a0]
          exact ⟨a1, a2⟩)
        clear hxq hg5 hb5 hbw5 hW5 hz5 hfr hW4 hbs
        go_wp2_with (first
          | (go_at_call 24; go_loud ((rw [← HW5.out]); refine HJ.out.mono ?_; rintro e w6 ⟨v6, rfl, ho6, hb6⟩; have hb56 : Below W5.heap.size W5 w6 := (HZ5.out.symm ▸ hb6); have hg6 := (hb56.block wq.heap.size (blk_lt HG5.out)).trans HG5.out; obtain ⟨A6, c6, ev6, -, -, -, -⟩ := own_rd ho6; subst ev6; have hby6 : BytesAt w6 (.slice A6 (y.bs ++ bb).length c6) (y.bs ++ bb) := .inl (ho6.lower (Nat.zero_le _)); have HLOW := Lib.hid (fun g hg => (ho6.lt g hg).1); have HFITv := Lib.hid (HFIT.out (.slice A6 (y.bs ++ bb).length c6)); have HPRv := Lib.hid (HPUT.out (.slice A6 (y.bs ++ bb).length c6)); obtain ⟨m6, hm6⟩ : ∃ m6, m6 = (y.bs ++ bb).length := ⟨_, rfl⟩; rw [← hm6] at hby6 HLOW HFITv HPRv ⊢; have HB6 := Lib.hid (HB5.out.trans (hb56.mono HB5.out.size)); have hR7 : RefE (w6.setCell ⟨wq.heap.size, 1, none⟩ (.slice A6 m6 c6)) p room _ ys := (H1.out.below HB6.out).moved fun g hg => set_other _ _ _ _ fun e => absurd (H1.out.lt hg) (by omega); have hby7 : BytesAt (w6.setCell ⟨wq.heap.size, 1, none⟩ (.slice A6 m6 c6)) (.slice A6 m6 c6) (y.bs ++ bb) := hby6.moved fun g hg => set_other _ _ _ _ fun e => hby6.ne hg6 (by decide) (by rw [← e]; exact hg); have HP7 := Lib.hid (rput_any hR7 ⟨y.nm, .slice A6 m6 c6, y.bs ++ bb, y.n⟩ A6 m6 c6 rfl hby7 ⟨Nat.le_trans HYE.out (by rw [List.length_append]; exact Nat.le_add_right _ _), HTS.out⟩ HFITv.out); have g0 := cell_blk hg6 0; have g1 := cell_blk hg6 1; have g2 := cell_blk hg6 2; have u1 := free_blk hg6 1; simp only [List.getElem?_toArray, List.getElem?_cons_succ, List.getElem?_cons_zero] at g0 g1 g2; clear hb6 hb56 hg6 ho6 hby6 hR7 hby7 hm6))
          | (go_at_call 40; go_loud (refine HP7.out.mono ?_; rintro e w8 ⟨rfl, fv8, R8, M8, F8⟩; have HR8 := Lib.hid R8; have HM8 := Lib.hid M8; have HF8 := Lib.hid F8; clear R8 M8 F8))
          | fail)
        go_ret
        rw [HR.out]
        refine ⟨(by unfold appD; rw [if_neg (by rw [HTI.out]; decide), HL.out]; simp only; rw [if_neg (by rw [← HT.out, ← HM.out]; exact hr)]; rfl), _, fv8, HPRv.out.trans ((put_upd (x := (y.nm, y.bs ++ bb, y.n)) (by rw [HLD.out]; exact HP.out) HL.out).trans (by unfold appD; rw [if_neg (by rw [HTI.out]; decide), HL.out]; simp only; rw [if_neg (by rw [← HT.out, ← HM.out]; exact hr)]; rfl)), HR8.out, ?_, fun k hk => ?_⟩
        · have m6' : Mv (fun k => k = p) w w6 := ⟨(HB.out.trans (HB6.out.mono HB.out.size)).os, (HB.out.trans (HB6.out.mono HB.out.size)).tape, (HB.out.trans (HB6.out.mono HB.out.size)).output, (HB.out.trans (HB6.out.mono HB.out.size)).size, fun k hk _ => (HB.out.trans (HB6.out.mono HB.out.size)).block k hk⟩
          have hs1 := HB.out.size
          have m7 : Mv (fun k => k = p) w (w6.setCell ⟨wq.heap.size, 1, none⟩ (.slice A6 m6 c6)) := ⟨m6'.os, m6'.tape, m6'.output, by rw [set_size]; exact m6'.size, fun k hk hn => (set_other _ _ _ _ (by omega)).trans (m6'.block k hk hn)⟩
          exact (m7.trans HM8.out (fun _ _ h => h)).mono fun k _ e => .inl e
        · have hs1 := HB.out.size; have hs6 := HB6.out.size; have hz := HZ5.out
          rcases HF8.out k hk with hf | hf | hf
          · exact .inl hf
          · rw [set_size] at hf; exact .inr (by omega)
          · have := HLOW.out k hf; exact .inr (by omega)
end
end Go.Proofs.Ytnmbjhpecblioaa
