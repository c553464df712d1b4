/-
  An index: the numbers that one matcher tells. An index: Select.
-/
import Derived.BigQuiet
import Derived.Test.YtjgappbomohlcaaGreatDoorKPq5
import Derived.Test.YtjgappbomohlcaaGreatDoorK02
namespace Go.Proofs.YtjgappbomohlcaaGreatDoor
section
set_option linter.unusedVariables false
set_option linter.unusedSimpArgs false
section
set_option linter.unusedVariables false
set_option linter.unusedSimpArgs false
open Go.RowKit
theorem opp_asks {m : Mt'} (hc : checkM m = 0) (h : asksM m = false) : asksM (oppM m) = true := by
  unfold asksM at h ⊢
  rw [opp_pass hc]
  simpa using h
theorem nw_ok {w : World} {l : List Mt'} {A : Value} (h : Calls Tryz.prog 76 #[A] w (NwOut w l 0)) : Calls Tryz.prog 76 #[A] w fun e w' => ∃ b, e = .returned (.tuple #[.pointer (some ⟨b, 0, none⟩), .int .i64 0]) ∧ SetIs w' b l ∧ Below w.heap.size w w' :=
  h.mono fun e w' h => by
    unfold NwOut at h
    rw [if_pos rfl] at h
    obtain ⟨b, h1, _, h2, h3⟩ := h
    exact ⟨b, h1, h2, h3⟩
theorem nw_no {w : World} {l : List Mt'} {A : Value} (h : Calls Tryz.prog 76 #[A] w (NwOut w l 71)) : Calls Tryz.prog 76 #[A] w fun e w' => e = .returned (.tuple #[.pointer none, .int .i64 71]) ∧ Below w.heap.size w w' :=
  h.mono fun e w' h => by
    unfold NwOut at h
    rw [if_neg (by decide)] at h
    exact h
section
set_option maxHeartbeats 3200000
set_option maxRecDepth 100000
def TldO (w : World) (L : List Ser) (m : Mt') (e : Ending) (w' : World) : Prop := ∃ A c r, e = .returned (.tuple #[.slice A r.length c, .bool (asksM m)]) ∧ Rd w' A (r.map Un) ∧ HasN L (lookM m) r ∧ Below w.heap.size w w'
theorem told_any {w : World} {xb : Nat} {L : List Ser} {G : Gh} (h : IxE w xb L G) (hT : Tabs w) (m : Mt') (hc : checkM m = 0) (h1 : m.2.1.size ≤ 1000000) (h2 : m.2.2.size ≤ 1000000) :
    Calls Tryz.prog 52 #[.pointer (some ⟨xb, 0, none⟩), .agg #[.int .i64 m.1, .string m.2.1, .string m.2.2]] w (TldO w L m) := by
  have hro := right_one hc
  have hopp := fun ha => opp_asks hc ha
  have hro2 := right_one (opp_check hc)
  obtain ⟨kd, nm, vl⟩ := m
  simp only at h1 h2
  have hb0 : Below w.heap.size w ((w.alloc (.cells #[.int .i64 kd, .string nm, .string vl] 66)).alloc (.cells #[.int .i64 kd, .string nm, .string vl] 66)) := ((Below.refl _ w).alloc (Nat.le_refl _) _).alloc (by rw [World.size_alloc]; omega) _
  obtain ⟨W, hW⟩ : ∃ W, W = (w.alloc (.cells #[.int .i64 kd, .string nm, .string vl] 66)).alloc (.cells #[.int .i64 kd, .string nm, .string vl] 66) := ⟨_, rfl⟩
  have hrd : Rd W (some ⟨w.heap.size + 1, 0, none⟩) (mcells [(kd, nm, vl)]) := by
    rw [hW]
    have := rd_row (w.alloc (.cells #[.int .i64 kd, .string nm, .string vl] 66)) (mcells [(kd, nm, vl)]) 66
    rw [World.size_alloc] at this
    exact this
  rw [← hW] at hb0
  have hnew := mnew_any (some ⟨w.heap.size + 1, 0, none⟩) 1 [(kd, nm, vl)] W hrd (hT.below hb0) (by simp) (fun m hm => by
    obtain rfl : m = (kd, nm, vl) := by simpa using hm
    exact h2)
  rw [hro] at hnew
  have HW := Lib.hid hW
  have hbx : W.heap[w.heap.size]? = some (.cells #[.int .i64 kd, .string nm, .string vl] 66 (0, 0)) := by
    rw [hW, Below.heap_alloc _ _ _ (by rw [World.size_alloc]; omega)]; exact heap_alloc_new w _
  have HH := Lib.hid h; have HT := Lib.hid hT; have HB0 := Lib.hid hb0; have HBX := Lib.hid hbx
  have hbl := lt_of_block hbx
  clear h hT hb0 hrd hW hbx
  cases ha : asksM (kd, nm, vl) with
  | true =>
    rw [ha, if_pos rfl] at hnew
    rw [show [(kd, nm, vl)].length = 1 from rfl] at hnew
    have HN := Lib.hid (nw_ok hnew)
    have HL := Lib.hid (show lookM (kd, nm, vl) = (kd, nm, vl) from by unfold lookM; rw [if_pos ha])
    have HA := Lib.hid ha
    clear hnew hro hopp hro2 hc ha
    go_enter Tryz.func52, Tryz.ntmps52
    go_wp2_with (first
      | (go_at_call 76; rw [← HW.out]; go_loud (with_reducible refine HN.out.mono ?_); rintro e w1 ⟨b, rfl, hs, hb⟩
         have hbw := HB0.out.trans (hb.mono HB0.out.size)
         have hh := having_any (HH.out.below hbw) (kd, nm, vl) h1 h2 hs
         have d0 := cell_blk ((hb.block _ hbl).trans HBX.out) 0
         have d1 := cell_blk ((hb.block _ hbl).trans HBX.out) 1
         have d2 := cell_blk ((hb.block _ hbl).trans HBX.out) 2
         simp only [List.getElem?_toArray, List.getElem?_cons_succ, List.getElem?_cons_zero] at d0 d1 d2
         have HV := Lib.hid hh; have HBW := Lib.hid hbw
         clear hh hbw hb hs)
      | (go_at_call 77; go_loud (with_reducible refine HV.out.mono ?_); rintro e w2 ⟨A2, c2, r, rfl, hr2, hn2, hb2⟩; have HR2 := Lib.hid hr2; have HN2 := Lib.hid hn2; have HB2 := Lib.hid hb2; clear hr2 hn2 hb2)
      | fail)
    go_ret2
    exact ⟨A2, c2, r, by rw [HA.out]; rfl, HR2.out, by rw [HL.out]; exact HN2.out, HBW.out.trans (HB2.out.mono HBW.out.size)⟩
  | false =>
    rw [ha, if_neg (by decide)] at hnew
    rw [show [(kd, nm, vl)].length = 1 from rfl] at hnew
    have HN := Lib.hid (nw_no hnew)
    have HL := Lib.hid (show lookM (kd, nm, vl) = oppM (kd, nm, vl) from by unfold lookM; rw [if_neg (by rw [ha]; decide)])
    have HA := Lib.hid ha
    have hop := opp_any kd
    rw [hopp ha, if_pos rfl] at hro2
    have HRO := Lib.hid hro2
    have HOP := Lib.hid hop
    clear hnew hro hopp hro2 hc ha hop
    go_enter Tryz.func52, Tryz.ntmps52
    go_wp2_with (first
      | (go_at_call 76; rw [← HW.out]; (with_reducible refine HN.out.mono ?_); rintro e w1 ⟨rfl, hb⟩
         have hbw := HB0.out.trans (hb.mono HB0.out.size)
         have hb1 := (hb.block _ hbl).trans HBX.out
         have d0 := cell_blk hb1 0
         have d1 := cell_blk hb1 1
         have d2 := cell_blk hb1 2
         have f0 := free_blk hb1 0
         simp only [List.getElem?_toArray, List.getElem?_cons_succ, List.getElem?_cons_zero] at d0 d1 d2
         have HBW := Lib.hid hbw; have HB1 := Lib.hid hb1
         clear hbw hb hb1)
      | (go_at_call 78; go_loud (with_reducible refine (HOP.out _).mono ?_); rintro e w2 ⟨rfl, rfl⟩)
      | fail)
    have hsz1 : w.heap.size + 1 ≤ w1.heap.size := by
      have := HBW.out.size
      have h9 := lt_of_block HB1.out
      omega
    have hset := set_blk HB1.out 0 (.int .i64 (oppK kd))
    have hss : (w1.setCell ⟨w.heap.size, 0, none⟩ (.int .i64 (oppK kd))).heap.size = w1.heap.size := by simp [World.setCell]
    have hbV : Below w.heap.size w ((w1.setCell ⟨w.heap.size, 0, none⟩ (.int .i64 (oppK kd))).alloc (.cells #[.int .i64 (oppK kd), .string nm, .string vl] 66)) :=
      (((Mv.of_below HBW.out (fun _ => False)).setCell (p := ⟨w.heap.size, 0, none⟩) (fun h => absurd h (Nat.lt_irrefl _)) _).alloc _).below
    have hrdV := rd_row (w1.setCell ⟨w.heap.size, 0, none⟩ (.int .i64 (oppK kd))) (mcells [(oppK kd, nm, vl)]) 66
    rw [hss] at hrdV
    have hbx2 : ((w1.setCell ⟨w.heap.size, 0, none⟩ (.int .i64 (oppK kd))).alloc (.cells #[.int .i64 (oppK kd), .string nm, .string vl] 66)).heap[w.heap.size]? = some (.cells #[.int .i64 (oppK kd), .string nm, .string vl] 66 (0, 0)) := by
      rw [Below.heap_alloc _ _ _ (by rw [hss]; omega), hset]; rfl
    replace hrdV : Rd ((w1.setCell ⟨w.heap.size, 0, none⟩ (.int .i64 (oppK kd))).alloc (.cells #[.int .i64 (oppK kd), .string nm, .string vl] 66)) (some ⟨w1.heap.size, 0, none⟩) (mcells [(oppK kd, nm, vl)]) := hrdV
    generalize (w1.setCell ⟨w.heap.size, 0, none⟩ (.int .i64 (oppK kd))).alloc (.cells #[.int .i64 (oppK kd), .string nm, .string vl] 66) = V at hbV hrdV hbx2 ⊢
    have hnV := mnew_any (some ⟨w1.heap.size, 0, none⟩) 1 [(oppK kd, nm, vl)] V hrdV (HT.out.below hbV) (by simp) (fun m hm => by
      obtain rfl : m = (oppK kd, nm, vl) := by simpa using hm
      exact h2)
    rw [show rightM [(oppK kd, nm, vl)] = 0 from HRO.out, show [(oppK kd, nm, vl)].length = 1 from rfl] at hnV
    have HNV := Lib.hid (nw_ok hnV)
    have HBV := Lib.hid hbV
    have HX2 := Lib.hid hbx2
    have hbl2 := lt_of_block hbx2
    clear hnV hset hss hrdV hbV hbx2 d0 d1 d2 f0
    with_reducible refine HNV.out.mono ?_
    rintro e w5 ⟨b, rfl, hs, hb⟩
    have hb5 := HBV.out.trans (hb.mono HBV.out.size)
    have hx5 := (hb.block _ hbl2).trans HX2.out
    have hh := having_any (HH.out.below hb5) (oppK kd, nm, vl) h1 h2 hs
    have d0 := cell_blk hx5 0
    have d1 := cell_blk hx5 1
    have d2 := cell_blk hx5 2
    simp only [List.getElem?_toArray, List.getElem?_cons_succ, List.getElem?_cons_zero] at d0 d1 d2
    have HV := Lib.hid hh; have HB5 := Lib.hid hb5
    clear hh hb5 hx5 hb hs
    go_wp2_with (first
      | (go_at_call 77; go_loud (with_reducible refine HV.out.mono ?_); rintro e w2 ⟨A2, c2, r, rfl, hr2, hn2, hb2⟩; have HR2 := Lib.hid hr2; have HN2 := Lib.hid hn2; have HB2 := Lib.hid hb2; clear hr2 hn2 hb2)
      | fail)
    go_ret2
    exact ⟨A2, c2, r, by rw [HA.out]; rfl, HR2.out, by rw [HL.out]; exact HN2.out, HB5.out.trans (HB2.out.mono HB5.out.size)⟩
end
end
section
set_option linter.unusedVariables false
set_option linter.unusedSimpArgs false
open Go.RowKit
theorem checks_all : ∀ {l : List Mt'}, checksM l = 0 → ∀ m ∈ l, checkM m = 0
  | [], _, m, hm => by cases hm
  | x :: r, h, m, hm => by
    unfold checksM at h
    split at h
    · rename_i hne; exact absurd h hne
    · rename_i hz
      rcases List.mem_cons.1 hm with rfl | hm
      · simpa using hz
      · exact checks_all h m hm
theorem rightM_all {l : List Mt'} (h : rightM l = 0) : l.length ≤ 16 ∧ ∀ m ∈ l, checkM m = 0 := by
  unfold rightM at h
  split at h
  · cases h
  · rename_i h1
    split at h
    · rename_i h2; exact absurd h h2
    · rename_i h2
      exact ⟨by omega, checks_all (by omega)⟩
theorem told_of {L : List Ser} {m : Mt'} {r : List Nat} (h : HasN L (lookM m) r) : ToldN L m r := fun n => by rw [h.2.2 n, look_name]
section
set_option maxHeartbeats 3200000
set_option maxRecDepth 100000
noncomputable def selR (L : List Ser) (l : List Mt') : List Nat := if rightM l = 0 then selL L l else []
def SltO (w : World) (L : List Ser) (l : List Mt') (e : Ending) (w' : World) : Prop := ∃ A c, e = .returned (.tuple #[.slice A (selR L l).length c, .int .i64 (rightM l : Nat)]) ∧ w'.ownsRow w.heap.size 23 1 (.slice A (selR L l).length c) (selR L l).length ((selR L l).map Un) ∧ Below w.heap.size w w'
theorem iselect_any {w : World} {xb : Nat} {L : List Ser} {G : Gh} (h : IxE w xb L G) (hT : Tabs w) (A : Option Addr) (ca : Nat) (l : List Mt') (hx : Rd w A (mcells l)) (hl : l.length ≤ 100000) (hv : ∀ m ∈ l, m.2.1.size ≤ 1000000 ∧ m.2.2.size ≤ 1000000) :
    Calls Tryz.prog 24 #[.pointer (some ⟨xb, 0, none⟩), .slice A l.length ca] w (SltO w L l) := by
  have HM := Lib.hid (imade_any h.box)
  have HR := Lib.hid (mright_any A ca l w hx hT hl fun m hm => (hv m hm).2)
  unfold SltO
  obtain ⟨R, hR⟩ : ∃ R, R = selR L l := ⟨_, rfl⟩
  rw [← hR]
  unfold selR at hR
  by_cases h0 : rightM l = 0
  · rw [if_pos h0] at hR
    rw [h0] at HR ⊢
    obtain ⟨h16, hck⟩ := rightM_all h0
    have hst : SelAt L (l.take 0) false [] [] := by rw [List.take_zero]; exact SelAt.nil L
    have HST := Lib.hid hst
    have HH := Lib.hid h; have HT := Lib.hid hT; have HV := Lib.hid hv; have HCK := Lib.hid hck; have HX := Lib.hid hx; have H0 := Lib.hid h0; have HRR := Lib.hid hR
    clear h hT hv hck hx h0 hst hR
    go_enter Tryz.func24, Tryz.ntmps24
    go_wp2_with (first
      | (go_at_call 47; refine HM.out.mono ?_; rintro e w1 ⟨rfl, rfl⟩)
      | (go_at_call 51; refine HR.out.mono ?_; rintro e w1 ⟨rfl, hb⟩; have HB1 := Lib.hid hb; clear hb)
      | fail)
    go_loopw [7, 8, 9, 24] (fun s7 s8 s9 s24 wr => ∃ (k : Nat) (bg : Bool) (A7 A8 : Option Addr) (c7 c8 : Nat) (f g : List Nat), s7 = .slice A7 f.length c7 ∧ s8 = .slice A8 g.length c8 ∧ s9 = .bool bg ∧ s24 = .int .i64 k ∧ k ≤ l.length ∧ f.length ≤ 4096 ∧ g.length ≤ 4096 * k
      ∧ Aside (SelAt L (l.take k) bg f g) ∧ Aside (Rd wr A7 (f.map Un)) ∧ Aside (Rd wr A8 (g.map Un)) ∧ Aside (Below w.heap.size w wr)) (fun _ _ _ s24 _ => l.length - (intOf s24).toNat)
    case atStart => exact ⟨0, false, none, none, 0, 0, [], [], rfl, rfl, rfl, rfl, by omega, by simp, by simp, (show Aside _ from HST.out), (show Aside _ from Rd.nil _ _), (show Aside _ from Rd.nil _ _), (show Aside _ from HB1.out)⟩
    case round =>
      obtain ⟨k, bg, A7, A8, c7, c8, f, g, rfl, rfl, rfl, rfl, hk, hf, hg, SA, RF, RG, BW⟩ := hrel
      have k0 : (0 : Int) ≤ (k : Int) := by omega
      by_cases hlt : k < l.length
      · have k1 : (k : Int) < (l.length : Int) := by omega
        obtain ⟨b, off, rfl, q0, q1, q2⟩ := mt_at (HX.out.below BW.out) hlt
        have hvk := HV.out l[k] (List.getElem_mem hlt)
        have hck := HCK.out l[k] (List.getElem_mem hlt)
        have hbx : Below w.heap.size w (wr.alloc (.cells #[.int .i64 l[k].1, .string l[k].2.1, .string l[k].2.2] 66)) := BW.out.alloc BW.out.size _
        have htl := told_any (HH.out.below hbx) (HT.out.below hbx) l[k] hck hvk.1 hvk.2
        unfold TldO at htl
        have hgo := fun (r : List Nat) (ha : asksM l[k] = false) (hn : HasN L (lookM l[k]) r) => SA.out.gone HH.out.wf hck ha (told_of hn)
        have hfi := fun (r : List Nat) (hb : bg = false) (ha : asksM l[k] = true) (hn : HasN L (lookM l[k]) r) => SelAt.first HH.out.wf (hb ▸ SA.out) hck ha (told_of hn)
        have hmo := fun (r : List Nat) (hb : bg = true) (ha : asksM l[k] = true) (hn : HasN L (lookM l[k]) r) => SelAt.more HH.out.wf (hb ▸ SA.out) hck ha (told_of hn)
        rw [List.take_append_getElem] at hgo hfi hmo
        have HTL := Lib.hid htl; have HGO := Lib.hid hgo; have HFI := Lib.hid hfi; have HMO := Lib.hid hmo; have HBX := Lib.hid hbx
        clear htl hgo hfi hmo hck hvk hbx
        generalize l[k] = x at *
        obtain ⟨kd, nm, vl⟩ := x
        simp only at q0 q1 q2 HTL HGO HFI HMO HBX
        cases ha : asksM (kd, nm, vl) with
        | false =>
          rw [ha] at HTL
          have HA := Lib.hid ha; clear ha
          go_wp2_with (first
            | (go_at_call 52; go_loud (with_reducible refine HTL.out.mono ?_); rintro e w2 ⟨A2, c2, r, rfl, hr2, hn2, hb2⟩
               have hb3 := HBX.out.trans (hb2.mono HBX.out.size)
               have hno := nor_any A8 A2 c8 c2 g r w2 (RG.out.below ((show Below wr.heap.size wr _ from (Below.refl _ wr).alloc (Nat.le_refl _) _).trans (hb2.mono (by rw [World.size_alloc]; omega)))) hr2 (by omega) (Nat.le_trans hn2.1 (by decide))
               have hrf := RF.out.below ((show Below wr.heap.size wr _ from (Below.refl _ wr).alloc (Nat.le_refl _) _).trans (hb2.mono (by rw [World.size_alloc]; omega)))
               have HNO := Lib.hid hno; have HN2 := Lib.hid hn2; have HB3 := Lib.hid hb3; have HRF := Lib.hid hrf
               clear hno hn2 hb3 hr2 hb2 hrf)
            | (go_at_call 33; go_loud (with_reducible refine HNO.out.mono ?_); rintro e w4 ⟨v4, rfl, ho4, hb4⟩; obtain ⟨A4, c4, rfl, hr4, -⟩ := own_rdU ho4; have HR4 := Lib.hid hr4; have HB4 := Lib.hid hb4; clear ho4 hr4 hb4)
            | fail)
          have hlen := orN_len g r
          have h40 := HN2.out.1
          go_roundw
          case rel =>
            exact ⟨k + 1, bg, A7, A4, c7, c4, f, orN g r, rfl, rfl, rfl, by go_num, by omega, hf, by omega, (show Aside _ from HGO.out r HA.out HN2.out), (show Aside _ from HRF.out.below HB4.out), (show Aside _ from HR4.out), (show Aside _ from HB3.out.trans (HB4.out.mono HB3.out.size))⟩
          case measure => simp [intOf]; omega
        | true =>
          rw [ha] at HTL
          have HA := Lib.hid ha; clear ha
          cases bg with
          | false =>
            go_wp2_with (first
              | (go_at_call 52; go_loud (with_reducible refine HTL.out.mono ?_); rintro e w2 ⟨A2, c2, r, rfl, hr2, hn2, hb2⟩
                 have hb3 := HBX.out.trans (hb2.mono HBX.out.size)
                 have hrg := RG.out.below ((show Below wr.heap.size wr _ from (Below.refl _ wr).alloc (Nat.le_refl _) _).trans (hb2.mono (by rw [World.size_alloc]; omega)))
                 have HR2 := Lib.hid hr2; have HN2 := Lib.hid hn2; have HB3 := Lib.hid hb3; have HRG := Lib.hid hrg
                 clear hn2 hb3 hr2 hb2 hrg)
              | fail)
            go_roundw
            case rel =>
              exact ⟨k + 1, true, A2, A8, c2, c8, r, g, rfl, rfl, rfl, by go_num, by omega, HN2.out.1, by omega, (show Aside _ from HFI.out r (by first | rfl | trivial) HA.out HN2.out), (show Aside _ from HR2.out), (show Aside _ from HRG.out), (show Aside _ from HB3.out)⟩
            case measure => simp [intOf]; omega
          | true =>
            go_wp2_with (first
              | (go_at_call 52; go_loud (with_reducible refine HTL.out.mono ?_); rintro e w2 ⟨A2, c2, r, rfl, hr2, hn2, hb2⟩
                 have hb3 := HBX.out.trans (hb2.mono HBX.out.size)
                 have hw := (show Below wr.heap.size wr _ from (Below.refl _ wr).alloc (Nat.le_refl _) _).trans (hb2.mono (by rw [World.size_alloc]; omega))
                 have hno := nand_any A7 A2 c7 c2 f r w2 (RF.out.below hw) hr2 (by omega) (Nat.le_trans hn2.1 (by decide))
                 have hrg := RG.out.below hw
                 have HNO := Lib.hid hno; have HN2 := Lib.hid hn2; have HB3 := Lib.hid hb3; have HRG := Lib.hid hrg
                 clear hno hn2 hb3 hr2 hb2 hrg hw)
              | (go_at_call 32; go_loud (with_reducible refine HNO.out.mono ?_); rintro e w4 ⟨v4, rfl, ho4, hb4⟩; obtain ⟨A4, c4, rfl, hr4, -⟩ := own_rdU ho4; have HR4 := Lib.hid hr4; have HB4 := Lib.hid hb4; clear ho4 hr4 hb4)
              | fail)
            have hlen := andN_len f r
            go_roundw
            case rel =>
              exact ⟨k + 1, true, A4, A8, c4, c8, andN f r, g, rfl, rfl, rfl, by go_num, by omega, by omega, by omega, (show Aside _ from HMO.out r (by first | rfl | trivial) HA.out HN2.out), (show Aside _ from HR4.out), (show Aside _ from HRG.out.below HB4.out), (show Aside _ from HB3.out.trans (HB4.out.mono HB3.out.size))⟩
            case measure => simp [intOf]; omega
      · obtain rfl : k = l.length := by omega
        have hless := nless_any A7 A8 c7 c8 f g wr RF.out RG.out (by omega) (by omega)
        have hsl := SA.out
        rw [List.take_length] at hsl
        have hdone := hsl.done HH.out.wf H0.out
        rw [hdone, ← HRR.out] at hless
        have HLS := Lib.hid hless
        clear hless hsl hdone
        go_wp2_with (first
          | (go_at_call 34; go_loud (with_reducible refine HLS.out.mono ?_); rintro e w4 ⟨v4, rfl, ho4, hb4⟩; obtain ⟨A4, c4, rfl, -, -⟩ := own_rdU ho4; have HO4 := Lib.hid ho4; have HB4 := Lib.hid hb4; clear ho4 hb4)
          | fail)
        go_ret2
        exact ⟨A4, c4, rfl, HO4.out.lower BW.out.size, BW.out.trans (HB4.out.mono BW.out.size)⟩
  · rw [if_neg h0] at hR
    subst hR
    have g0 : ((rightM l : Int) != 0) = true := by rw [bne_iff_ne]; omega
    clear h hT hv hx
    generalize rightM l = r at HR g0 h0 ⊢
    go_enter Tryz.func24, Tryz.ntmps24
    go_wp2_with (first
      | (go_at_call 47; refine HM.out.mono ?_; rintro e w1 ⟨rfl, rfl⟩)
      | (go_at_call 51; refine HR.out.mono ?_; rintro e w1 ⟨rfl, hb⟩; have HB1 := Lib.hid hb; clear hb)
      | fail)
    go_ret2
    exact ⟨none, 0, rfl, World.ownsRow_nil _ _ _ _, HB1.out⟩
end
end
end
end Go.Proofs.YtjgappbomohlcaaGreatDoor
