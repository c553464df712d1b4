/-
  The record that bytes are: the program's own Take.
-/
import Derived.Deep.RegionHeld3
import Derived.Test.YtgogpngobdafaaaDoorJp
namespace Go.Proofs.YtgogpngobdafaaaDoor
set_option linter.unusedVariables false
set_option linter.unusedSimpArgs false
open Go.RowKit
def takeKK (k : Nat) (b : Bs) : Rp × Nat × Nat := if k = 1 then takeK1 b else if k = 2 then takeK2 b else takeK0 b
/-- What is made of what a kind's bytes begin with. -/
def finK (x : Rp × Nat × Nat) (n : Nat) : Rp × Nat := if x.2.2 ≠ 0 then (rp0, x.2.2) else if x.2.1 < n then (rp0, 8) else (x.1, 0)
theorem takeR_fin (k : UInt8) (b : Bs) : takeR (k :: b) = finK (takeKK k.toNat b) b.length := by
  unfold takeR takeKK
  simp only
  by_cases h1 : k.toNat = 1
  · rw [if_pos h1, if_pos h1]
    unfold serR takeK1 finK
    by_cases g1 : (uvS 0 0 b).2.2 ≠ 0
    · rw [if_pos g1, if_pos g1, if_pos g1]
    · rw [if_neg g1, if_neg g1]
      by_cases g2 : (uvS 0 0 b).1 = 0 ∨ 4294967295 < (uvS 0 0 b).1
      · rw [if_pos g2, if_pos g2]; rfl
      · rw [if_neg g2, if_neg g2]
  · rw [if_neg h1, if_neg h1]
    by_cases h2 : k.toNat = 2
    · rw [if_pos h2, if_pos h2]
      unfold ptsR takeK2 finK
      by_cases g1 : (uvS 0 0 b).2.2 ≠ 0
      · rw [if_pos g1, if_pos g1, if_pos g1]
      · rw [if_neg g1, if_neg g1]
        by_cases g2 : 256 < (uvS 0 0 b).1
        · rw [if_pos g2, if_pos g2]; rfl
        · rw [if_neg g2, if_neg g2]
          by_cases g3 : (uvS 0 0 b).1 = 0
          · rw [if_pos g3, if_pos g3]; rfl
          · rw [if_neg g3, if_neg g3]
    · rw [if_neg h2, if_neg h2]; rfl
theorem takeKK_le (k : Nat) (b : Bs) : (takeKK k b).2.1 ≤ b.length := by
  have h1 := uvS_le' b
  have h2 := (takeP_small (b.drop (uvS 0 0 b).2.1)).2.2
  have h3 := (ensAt_le (uvS 0 0 b).1 en0 (b.drop (uvS 0 0 b).2.1)).1
  rw [List.length_drop] at h2 h3
  unfold takeKK takeK1 takeK2 takeK0
  split
  · split
    · exact Nat.zero_le _
    · split
      · exact Nat.zero_le _
      · simp only; omega
  · split
    · split
      · exact Nat.zero_le _
      · split
        · exact Nat.zero_le _
        · split
          · exact Nat.zero_le _
          · simp only; omega
    · exact Nat.zero_le _
theorem ent_mv {w w' : World} {A : Option Addr} {l : List En} {g : Nat} {y : Rv} (m : Mv (fun k => k = g) w w') (h : Rd w A (ecells l)) (hg : w.heap[g]? = some (.cells (rvC y) 27 (0, 0))) : Rd w' A (ecells l) := by
  cases l with
  | nil => exact Rd.nil _ _
  | cons x r =>
    refine m.rd h (fun k hk e hk2 => ?_)
    subst hk2
    obtain ⟨b, off, rfl, c0, c1, -⟩ := en_at h (k := 0) (x := x) rfl
    have : b = k := by simpa using e
    subst this
    rw [cell_blk hg] at c0 c1
    unfold rvC at c0 c1
    rw [List.getElem?_toArray] at c0 c1
    rcases off with _ | _ | _ | _ | off
    · simp at c0
    · simp at c1
    · simp at c0
    · simp at c0
    · simp at c0
theorem RvIs.mv {w w' : World} {x y : Rv} {g : Nat} (h : RvIs w x) (m : Mv (fun k => k = g) w w') (hg : w.heap[g]? = some (.cells (rvC y) 27 (0, 0))) : RvIs w' x :=
  ⟨lab_mv m h.la hg (no_text (fun s h => by cases h) (fun s h => by cases h)), ent_mv m h.lb hg⟩
/-- A record stored cell by cell. -/
def setR (w : World) (g : Nat) (x : Rv) : World := (((w.setCell ⟨g, 0, none⟩ (.int .i64 x.kd)).setCell ⟨g, 1, none⟩ (.int .u32 (x.r : Nat))).setCell ⟨g, 2, none⟩ (.slice x.A x.ls.length x.ca)).setCell ⟨g, 3, none⟩ (.slice x.B x.ps.length x.cb)
theorem setR_heap {w : World} {g : Nat} {y : Rv} (x : Rv) (h : w.heap[g]? = some (.cells (rvC y) 27 (0, 0))) : (setR w g x).heap[g]? = some (.cells (rvC x) 27 (0, 0)) := by
  unfold setR
  rw [set_blk (set_blk (set_blk (set_blk h 0 _) 1 _) 2 _) 3 _]
  rfl
theorem setR_mv {w w0 : World} {S : Nat → Prop} {g : Nat} (x : Rv) (h : Mv S w0 w) (hg : g < w0.heap.size → S g) : Mv S w0 (setR w g x) :=
  (((h.setCell (p := ⟨g, 0, none⟩) hg _).setCell (p := ⟨g, 1, none⟩) hg _).setCell (p := ⟨g, 2, none⟩) hg _).setCell (p := ⟨g, 3, none⟩) hg _
/-- How things stand when a record was taken: the box of it, the box of what is handed back. -/
structure TkAt (w : World) (g : Nat) (x : Rv) (rp : Rp) (er : Nat) (W : World) : Prop where
  bx : W.heap[g]? = some (.cells (rvC x) 27 (0, 0))
  res : W.heap[w.heap.size]? = some (.cells (rvC ⟨0, 0, none, 0, [], none, 0, []⟩) 27 (0, 0))
  is : er = 0 → x.p = rp ∧ RvIs W x
  be : Below w.heap.size w W
  ne : g ≠ w.heap.size
theorem TkAt.drew {w W : World} {g er : Nat} {x : Rv} {rp : Rp} (h : TkAt w g x rp er W) : TkAt w g x rp er W.drew := ⟨h.bx, h.res, fun e => ⟨(h.is e).1, (h.is e).2.la, (h.is e).2.lb⟩, below_drewN h.be 1, h.ne⟩
section
set_option maxHeartbeats 3200000
set_option maxRecDepth 100000
theorem tkk_any (k : Nat) (A : Option Addr) (c len : Nat) (xs : Bs) (w : World) (hT : Tabs w) (hle : xs.length = len) (hx : Rd w A (xs.map Bv)) (hc : len ≤ c) (hl : len ≤ 1000000) :
    Calls Tryd.prog 49 #[.int .i64 (k : Nat), .slice A len c] w fun e w' => ∃ x : Rv,
      e = .returned (.tuple #[.agg (rvC x), .int .i64 ((takeKK k xs).2.1 : Nat), .int .i64 ((takeKK k xs).2.2 : Nat)]) ∧ ((takeKK k xs).2.2 = 0 → x.p = (takeKK k xs).1 ∧ RvIs w' x) ∧ Below w.heap.size w w' := by
  unfold takeKK
  by_cases h1 : k = 1
  · subst h1; rw [if_pos rfl]; exact tk_one A c len xs w hT hle hx hc hl
  · rw [if_neg h1]
    by_cases h2 : k = 2
    · subst h2; rw [if_pos rfl]; exact tk_two A c len xs w hT hle hx hc hl
    · rw [if_neg h2]; exact tk_else k h1 h2 A c len xs w hT hle hx hc hl
/-- What Take hands back. -/
def TakeRes (w : World) (r : Rp × Nat) (e : Ending) (w' : World) : Prop := ∃ x : Rv, e = .returned (.tuple #[.agg (rvC x), .int .i64 (r.2 : Nat)]) ∧ x.p = r.1 ∧ RvIs w' x ∧ Below w.heap.size w w'
theorem take13_any (A : Option Addr) (c len : Nat) (xs : Bs) (w : World) (hT : Tabs w) (hle : xs.length = len) (hx : Rd w A (xs.map Bv)) (hc : len ≤ c) (hl : len ≤ 1000000) (hcm : c ≤ 9223372036854775807) :
    Calls Tryd.prog 21 #[.slice A len c] w (TakeRes w (takeR xs)) := by
  subst hle
  obtain ⟨R, hR⟩ : ∃ R, R = takeR xs := ⟨_, rfl⟩
  rw [← hR]
  cases xs with
  | nil =>
    have hr : R = (rp0, 6) := by rw [hR]; rfl
    subst hr
    have h2 := heap_alloc_new w (.cells #[.int .i64 0, .int .u32 0, .slice none 0 0, .slice none 0 0] 27)
    have hb := (RowKit.Below.refl w.heap.size w).alloc (Nat.le_refl _) (.cells #[.int .i64 0, .int .u32 0, .slice none 0 0, .slice none 0 0] 27)
    have H2 := Lib.hid h2; have HB := Lib.hid hb
    clear h2 hb hR
    simp only [List.length_nil]
    go_enter Tryd.func21, Tryd.ntmps21
    go_wp2_with (first
      | (refine wpList_store_agg (o := ⟨none, _, _, _, _, _⟩) ?_ 27 (.tmp 2) (.tmp 10) ?_ w.heap.size 0 [.int .i64 0, .int .u32 0, .slice none 0 0, .slice none 0 0] ?_ ?_ 27 _ H2.out (by kernel_rfl) (by show 0 + 4 ≤ 4; decide) (by intro v hv; simp at hv; rcases hv with rfl | rfl | rfl | rfl <;> rfl) ?_; rfl; rfl; rfl; rfl; intro w9 hg9 hmv9 hs9)
      | fail)
    refine post_rv2 (by rfl) w.heap.size (rvC ⟨0, 0, none, 0, [], none, 0, []⟩) (by rfl) hg9 (by rfl) (by rfl) ?_
    exact ⟨⟨0, 0, none, 0, [], none, 0, []⟩, rfl, rfl, ⟨Rd.nil _ _, Rd.nil _ _⟩, HB.out.trans (hmv9.belowB HB.out.size (fun i hi e => by omega))⟩
  | cons k b =>
    rw [takeR_fin] at hR
    obtain ⟨A2, hsl, hrd2⟩ := run_slice_all (P := Tryd.prog) 30 5 A (b.length + 1) c 1 (b.length + 1) (some (.int .i64 1)) none Tryd.underlying30 (by kernel_rfl) (.inl rfl) (.inr ⟨rfl, rfl⟩) (by omega) (by simpa using hc)
    have hr2 := fun W (h : Rd W A ((k :: b).map Bv)) => hrd2 W _ (by simpa using hc) h
    simp only [List.map_cons, List.drop_succ_cons, List.drop_zero, Nat.add_sub_cancel] at hr2 hsl
    have hle := takeKK_le k.toNat b
    have htk := fun W (hb : Below w.heap.size w W) (hr : Rd W A2 (b.map Bv)) => tkk_any k.toNat A2 (c - 1) b.length b W (hT.below hb) rfl hr (by simp at hc; omega) (by simp at hl; omega)
    obtain ⟨b0, off, rfl, c0⟩ := hx.byte (k := 0) (by simp)
    simp only [List.getElem_cons_zero, Nat.add_zero] at c0
    have hx' : Rd w (some ⟨b0, off, none⟩) (Bv k :: b.map Bv) := hx
    have hk256 := k.toNat_lt
    generalize takeKK k.toNat b = K at htk hR hle
    generalize k.toNat = kn at htk c0 hk256
    obtain ⟨rp, sz, er⟩ := K
    simp only [List.length_cons] at htk hR hl hc hle ⊢
    unfold finK at hR
    simp only at hR
    obtain ⟨w1, hw1⟩ : ∃ w1, w1 = w.alloc (.cells #[.int .i64 0, .int .u32 0, .slice none 0 0, .slice none 0 0] 27) := ⟨_, rfl⟩
    have h21 : w1.heap[w.heap.size]? = some (.cells #[.int .i64 0, .int .u32 0, .slice none 0 0, .slice none 0 0] 27 (0, 0)) := by rw [hw1]; exact heap_alloc_new w _
    have hb1 : Below w.heap.size w w1 := by rw [hw1]; exact (RowKit.Below.refl w.heap.size w).alloc (Nat.le_refl _) _
    have hb0 : b0 < w.heap.size := World.block_lt_of_cell? w _ c0
    have HCE := Lib.hid (fun W (hb : Below w.heap.size w W) => ((hx'.below hb) 0 _ rfl))
    have HRD := Lib.hid (fun W (hb : Below w.heap.size w W) => hr2 W (hx'.below hb))
    have HTK := Lib.hid htk; have HW1 := Lib.hid hw1; have H21 := Lib.hid h21; have HB := Lib.hid hb1; have HR := Lib.hid hR
    have HC0 := Lib.hid (fun W (hb : Below w.heap.size w W) => show W.cell? ⟨b0, off, none⟩ = some (.int .u8 (kn : Int)) from by rw [World.cell?_of_block (a := ⟨b0, off, none⟩) (hb.block b0 hb0)]; exact c0)
    have c01 : w1.cell? ⟨b0, off, none⟩ = some (.int .u8 (kn : Int)) := by rw [World.cell?_of_block (a := ⟨b0, off, none⟩) (hb1.block b0 hb0)]; exact c0
    have n1 : (0 : Int) < (b.length : Int) + 1 := by omega
    have hwk : IntKind.i64.wrap (kn : Int) = (kn : Int) := by rw [IntKind.wrap_i64]; omega
    have n2 : ((b.length : Int) + 1 == 0) = false := by rw [beq_eq_false_iff_ne]; omega
    clear hx hx' htk hw1 h21 hb1 hR hr2 hrd2 hT
    go_enter Tryd.func21, Tryd.ntmps21
    go_wp2_with fail
    rw [← HW1.out]
    go_region_held3 (fun W' => W'.cell? ⟨b0, off, none⟩ = some (.int .u8 (kn : Int))) (first | exact c01 | exact HC0.out _ HB.out | exact HC0.out _ (HB.out.alloc HB.out.size _) | exact HC0.out _ (below_drewN HB.out 1) | exact HC0.out _ (below_drewN (HB.out.alloc HB.out.size _) 1) | exact HC0.out _ HBQ.out | exact HC0.out _ (HBQ.out.alloc HBQ.out.size _) | exact HCS.out) (first
      | (go_at_call 49; go_must ((refine (HTK.out _ (by first | exact HB.out | exact below_drewN HB.out 1 | exact HB.out.alloc HB.out.size _ | exact (below_drewN HB.out 1).alloc HB.out.size _ | exact below_drewN (HB.out.alloc HB.out.size _) 1) (HRD.out _ (by first | exact HB.out | exact below_drewN HB.out 1 | exact HB.out.alloc HB.out.size _ | exact (below_drewN HB.out 1).alloc HB.out.size _ | exact below_drewN (HB.out.alloc HB.out.size _) 1))).mono ?_); rintro e wq ⟨x, rfl, hxx, hbq⟩)
         have h4q : wq.heap[w1.heap.size]? = some (.cells #[.int .i64 0, .int .u32 0, .slice none 0 0, .slice none 0 0] 27 (0, 0)) := (hbq.block w1.heap.size (by simp)).trans (by first | exact heap_alloc_new _ _ | exact heap_alloc_new w1 _ | exact heap_alloc_new w1.drew _)
         have h2q := (hbq.block w.heap.size (by have h := blk_lt H21.out; first | exact h | (simp; omega))).trans (by first | exact H21.out | exact (Below.heap_alloc _ _ _ (blk_lt H21.out)).trans H21.out)
         have H2Q := Lib.hid h2q; have hbw : Below w.heap.size w wq := Below.trans (by first | exact HB.out | exact below_drewN HB.out 1 | exact HB.out.alloc HB.out.size _ | exact (below_drewN HB.out 1).alloc HB.out.size _ | exact below_drewN (HB.out.alloc HB.out.size _) 1) (hbq.mono (Below.size (by first | exact HB.out | exact below_drewN HB.out 1 | exact HB.out.alloc HB.out.size _ | exact (below_drewN HB.out 1).alloc HB.out.size _ | exact below_drewN (HB.out.alloc HB.out.size _) 1))); have HBQ := Lib.hid hbw; have HXX := Lib.hid hxx; obtain ⟨kd', r', A', ca', ls', B', cb', ps'⟩ := x
         have z0 := cell_blk h4q 0; have z1 := cell_blk h4q 1; have z2 := cell_blk h4q 2; have z3 := cell_blk h4q 3
         simp only [List.getElem?_toArray, List.getElem?_cons_zero, List.getElem?_cons_succ] at z0 z1 z2 z3
         have f0 := free_blk h4q 0; have f1 := free_blk h4q 1; have f2 := free_blk h4q 2; have f3 := free_blk h4q 3
         unfold rvC
         simp only
         have H4Q := Lib.hid h4q
         have hgw : w.heap.size ≤ w1.heap.size := HB.out.size
         have hnw : w1.heap.size ≠ w.heap.size := by have h := blk_lt H21.out; omega
         have hm4 := setR_mv (S := fun i => i = w1.heap.size) ⟨kd', r', A', ca', ls', B', cb', ps'⟩ (Mv.refl _ wq) (g := w1.heap.size) (fun _ => rfl)
         have hb4 : Below w.heap.size w (setR wq w1.heap.size ⟨kd', r', A', ca', ls', B', cb', ps'⟩) := hbw.trans (hm4.belowB hbw.size (fun i hi e => by omega))
         have hcs := HC0.out _ hb4
         have hta : TkAt w w1.heap.size ⟨kd', r', A', ca', ls', B', cb', ps'⟩ rp er (setR wq w1.heap.size ⟨kd', r', A', ca', ls', B', cb', ps'⟩) := ⟨setR_heap (y := ⟨0, 0, none, 0, [], none, 0, []⟩) _ h4q, keep_mv hm4 h2q (Ne.symm hnw), fun e => ⟨(hxx e).1, (hxx e).2.mv (y := ⟨0, 0, none, 0, [], none, 0, []⟩) hm4 h4q⟩, hb4, hnw⟩
         simp only [setR] at hcs hta
         have HCS := Lib.hid hcs; have HTA := Lib.hid hta
         clear hm4 hb4 hcs hta
         clear h4q h2q hbw hbq hxx)
      | (go_at_call 49; go_must ((refine (HTK.out _ (by first | exact HB.out | exact below_drewN HB.out 1 | exact HB.out.alloc HB.out.size _ | exact (below_drewN HB.out 1).alloc HB.out.size _ | exact below_drewN (HB.out.alloc HB.out.size _) 1) (HRD.out _ (by first | exact HB.out | exact below_drewN HB.out 1 | exact HB.out.alloc HB.out.size _ | exact (below_drewN HB.out 1).alloc HB.out.size _ | exact below_drewN (HB.out.alloc HB.out.size _) 1))).mono ?_); rintro e wq ⟨x, rfl, hxx, hbq⟩)
         have h2q := (hbq.block w.heap.size (by have h := blk_lt H21.out; first | exact h | (simp; omega))).trans (by first | exact H21.out | exact (Below.heap_alloc _ _ _ (blk_lt H21.out)).trans H21.out)
         have H2Q := Lib.hid h2q; have hbw : Below w.heap.size w wq := Below.trans (by first | exact HB.out | exact below_drewN HB.out 1 | exact HB.out.alloc HB.out.size _ | exact (below_drewN HB.out 1).alloc HB.out.size _ | exact below_drewN (HB.out.alloc HB.out.size _) 1) (hbq.mono (Below.size (by first | exact HB.out | exact below_drewN HB.out 1 | exact HB.out.alloc HB.out.size _ | exact (below_drewN HB.out 1).alloc HB.out.size _ | exact below_drewN (HB.out.alloc HB.out.size _) 1))); have HBQ := Lib.hid hbw; have HXX := Lib.hid hxx; obtain ⟨kd', r', A', ca', ls', B', cb', ps'⟩ := x
         have hbe := (RowKit.Below.refl wq.heap.size wq).alloc (Nat.le_refl _) (.cells #[.int .i64 kd', .int .u32 (r' : Nat), .slice A' ls'.length ca', .slice B' ps'.length cb'] 27)
         have htb : TkAt w wq.heap.size ⟨kd', r', A', ca', ls', B', cb', ps'⟩ rp er (wq.alloc (.cells #[.int .i64 kd', .int .u32 (r' : Nat), .slice A' ls'.length ca', .slice B' ps'.length cb'] 27)) := ⟨heap_alloc_new wq _, (hbe.block _ (blk_lt h2q)).trans h2q, fun e => ⟨(hxx e).1, (hxx e).2.below hbe⟩, hbw.trans (hbe.mono hbw.size), by have h := blk_lt h2q; omega⟩
         have HTB := Lib.hid htb
         unfold rvC
         simp only
         clear h2q hbw hbq hxx hbe htb)
      | fail)
    all_goals
      first
        | (refine withE (fun W6 => TkAt w w1.heap.size ⟨kd', r', A', ca', ls', B', cb', ps'⟩ rp er W6) (by first | exact HTA.out | exact HTA.out.drew) ?_
           rintro w6 ht6
           obtain ⟨g4, hg4⟩ : ∃ g, g = w1.heap.size := ⟨_, rfl⟩
           rw [← hg4] at ht6 ⊢)
        | (refine withE (fun W6 => TkAt w wq.heap.size ⟨kd', r', A', ca', ls', B', cb', ps'⟩ rp er W6) (by first | exact HTB.out | exact HTB.out.drew) ?_
           rintro w6 ht6
           obtain ⟨g4, hg4⟩ : ∃ g, g = wq.heap.size := ⟨_, rfl⟩
           rw [← hg4] at ht6 ⊢)
    all_goals
      have HT6 := Lib.hid ht6
      have b40 := cell_blk ht6.bx 0; have b41 := cell_blk ht6.bx 1; have b42 := cell_blk ht6.bx 2; have b43 := cell_blk ht6.bx 3
      unfold rvC at b40 b41 b42 b43
      simp only [List.getElem?_toArray, List.getElem?_cons_zero, List.getElem?_cons_succ] at b40 b41 b42 b43
      clear ht6 hg4
      have hR := HR.out
      by_cases he : er = 0
      · subst he
        rw [if_neg (by simp)] at hR
        by_cases hs : sz < b.length
        · rw [if_pos hs] at hR
          have g1 : (1 : Int) + (sz : Int) < (b.length : Int) + 1 := by omega
          have HRR := Lib.hid hR
          clear hR
          go_wp2_with (first
            | (refine wpList_store_agg (o := ⟨none, _, _, _, _, _⟩) ?_ 27 (.tmp 2) (.tmp 33) ?_ w.heap.size 0 [.int .i64 0, .int .u32 0, .slice none 0 0, .slice none 0 0] ?_ ?_ 27 _ HT6.out.res (by kernel_rfl) (by show 0 + 4 ≤ 4; decide) (by intro v hv; simp at hv; rcases hv with rfl | rfl | rfl | rfl <;> rfl) ?_; rfl; rfl; rfl; rfl; intro w9 hg9 hmv9 hs9)
            | fail)
          refine post_rv2 (by rfl) w.heap.size (rvC ⟨0, 0, none, 0, [], none, 0, []⟩) (by rfl) hg9 (by rfl) (by rfl) ?_
          exact ⟨⟨0, 0, none, 0, [], none, 0, []⟩, by rw [HRR.out]; rfl, by rw [HRR.out]; rfl, ⟨Rd.nil _ _, Rd.nil _ _⟩, HT6.out.be.trans (hmv9.belowB HT6.out.be.size (fun i hi e => by omega))⟩
        · rw [if_neg hs] at hR
          have g1 : ¬ (1 : Int) + (sz : Int) < (b.length : Int) + 1 := by omega
          have HRR := Lib.hid hR
          clear hR
          go_wp2_with (first
            | (refine wpList_store_agg (o := ⟨none, _, _, _, _, _⟩) ?_ 27 (.tmp 2) (.tmp 35) ?_ w.heap.size 0 [.int .i64 kd', .int .u32 (r' : Nat), .slice A' ls'.length ca', .slice B' ps'.length cb'] ?_ ?_ 27 _ HT6.out.res (by kernel_rfl) (by show 0 + 4 ≤ 4; decide) (by intro v hv; simp at hv; rcases hv with rfl | rfl | rfl | rfl <;> rfl) ?_; rfl; rfl; rfl; rfl; intro w9 hg9 hmv9 hs9)
            | fail)
          refine post_rv2 (by rfl) w.heap.size (rvC ⟨kd', r', A', ca', ls', B', cb', ps'⟩) (by rfl) hg9 (by rfl) (by rfl) ?_
          obtain ⟨i1, i2⟩ := HT6.out.is rfl
          exact ⟨⟨kd', r', A', ca', ls', B', cb', ps'⟩, by rw [HRR.out]; rfl, by rw [HRR.out]; exact i1, i2.mv hmv9 HT6.out.res, HT6.out.be.trans (hmv9.belowB HT6.out.be.size (fun i hi e => by omega))⟩
      · rw [if_pos he] at hR
        have g1 : ((er : Int) == 0) = false := by rw [beq_eq_false_iff_ne]; omega
        have g2 : ((er : Int) != 0) = true := by rw [bne_iff_ne]; omega
        have HRR := Lib.hid hR
        clear hR
        go_wp2_with (first
          | (refine wpList_store_agg (o := ⟨none, _, _, _, _, _⟩) ?_ 27 (.tmp 2) (.tmp 33) ?_ w.heap.size 0 [.int .i64 0, .int .u32 0, .slice none 0 0, .slice none 0 0] ?_ ?_ 27 _ HT6.out.res (by kernel_rfl) (by show 0 + 4 ≤ 4; decide) (by intro v hv; simp at hv; rcases hv with rfl | rfl | rfl | rfl <;> rfl) ?_; rfl; rfl; rfl; rfl; intro w9 hg9 hmv9 hs9)
          | fail)
        refine post_rv2 (by rfl) w.heap.size (rvC ⟨0, 0, none, 0, [], none, 0, []⟩) (by rfl) hg9 (by rfl) (by rfl) ?_
        exact ⟨⟨0, 0, none, 0, [], none, 0, []⟩, by rw [HRR.out]; rfl, by rw [HRR.out]; rfl, ⟨Rd.nil _ _, Rd.nil _ _⟩, HT6.out.be.trans (hmv9.belowB HT6.out.be.size (fun i hi e => by omega))⟩
end
end Go.Proofs.YtgogpngobdafaaaDoor
