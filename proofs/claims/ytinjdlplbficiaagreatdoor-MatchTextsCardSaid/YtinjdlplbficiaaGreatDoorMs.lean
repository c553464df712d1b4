/-
  What takes a text of matchers apart, step by step.
  A metric's name ahead of the others.
  A matcher's name.
  A matcher's sign, and its value: what is read into the last matcher.
-/
import Derived.Deep.RegionHeld3
import Derived.Deep.AppendLies
import Derived.Shelf.Strings.SlTrimAscii
import Derived.Test.YtinjdlplbficiaaGreatDoorMm
import Derived.Test.YtinjdlplbficiaaGreatDoorNa
import Derived.Test.YtinjdlplbficiaaGreatDoorFi0
import Derived.Test.YtinjdlplbficiaaGreatDoorShelf
import Derived.Test.YtinjdlplbficiaaGreatDoorShelf4
namespace Go.Proofs.YtinjdlplbficiaaGreatDoor
set_option linter.unusedVariables false
set_option linter.unusedSimpArgs false
section
set_option linter.unusedVariables false
set_option linter.unusedSimpArgs false
open Go.RowKit
def prefB (m s : Bs) : Bool := m.isPrefixOf s
def restB (m s : Bs) : Bs := if prefB m s then s.drop m.length else s
theorem trimMB (l : Bs) : Lib.trimLeftB l 32 = bareP l := by
  unfold Lib.trimLeftB bareP
  congr 1
theorem mtrim_any (s : ByteArray) (w : World) : Calls Tryz.prog 27 #[.string s, .string ⟨#[32]⟩] w fun e w' => e = .returned (.string (mkB (bareP (bl s)))) ∧ w' = w := by
  have h := Tryz.strings_TrimLeft_one s 32 (by decide) w
  rw [trimMB] at h
  exact h
/-- The bytes that may stand in a name. -/
def letterS : ByteArray := ⟨#[97, 98, 99, 100, 101, 102, 103, 104, 105, 106, 107, 108, 109, 110, 111, 112, 113, 114, 115, 116, 117, 118, 119, 120, 121, 122, 65, 66, 67, 68, 69, 70, 71, 72, 73, 74, 75, 76, 77, 78, 79, 80, 81, 82, 83, 84, 85, 86, 87, 88, 89, 90, 48, 49, 50, 51, 52, 53, 54, 55, 56, 57, 95]⟩
theorem letter_set (c : UInt8) : letterS.data.toList.contains c = letterN c.toNat := by
  have : ∀ n : Fin 256, letterS.data.toList.contains (UInt8.ofNat n.val) = letterN (UInt8.ofNat n.val).toNat := by decide +kernel
  have h := this ⟨c.toNat, c.toNat_lt⟩
  simpa using h
theorem trim_word (s : ByteArray) (w : World) : Calls Tryz.prog 27 #[.string s, .string letterS] w fun e w' => e = .returned (.string (mkB ((bl s).drop (wordN (bl s))))) ∧ RowKit.Below w.heap.size w w' := by
  have h := Any.strings_TrimLeft_laid Tryz.trimL (by kernel_rfl) s letterS w (by decide) (ascii_of_all (by decide))
  have e : Lib.trimLeftS s.data.toList letterS.data.toList = (bl s).drop (wordN (bl s)) := by
    unfold Lib.trimLeftS wordN bl
    rw [show (fun c => letterS.data.toList.contains c) = fun c : UInt8 => letterN c.toNat from funext letter_set]
    generalize s.data.toList = l
    induction l with
    | nil => rfl
    | cons c r ih =>
      rw [List.dropWhile_cons, List.takeWhile_cons]
      split
      · rw [ih]; simp
      · simp
  rw [e] at h
  exact h
theorem cutp_any (s m : ByteArray) (w : World) : Calls Tryz.prog 52 #[.string s, .string m] w fun e w' => e = .returned (.tuple #[.string (mkB (restB (bl m) (bl s))), .bool (prefB (bl m) (bl s))]) ∧ w' = w := by
  have h := Tryz.strings_CutPrefix s m w
  have e1 : Lib.hasPrefix s.data.toList m.data.toList = prefB (bl m) (bl s) := rfl
  have e2 : Lib.trimPrefix s.data.toList m.data.toList = restB (bl m) (bl s) := by
    unfold Lib.trimPrefix restB
    rw [e1]; rfl
  rw [e1, e2] at h
  exact h
/-- What is left of a text, in block g, and the matchers so far. -/
structure ScIs (w : World) (B g : Nat) (s : ByteArray) (l : List Mt') : Prop where
  low : B ≤ g
  box : ∃ A c, w.heap[g]? = some (.cells #[.string s, .slice A l.length c] 62 (0, 0)) ∧ w.ownsRow B 37 3 (.slice A l.length c) l.length (mcells l)
theorem mt_apart {w : World} {B g : Nat} {v : Value} {n : Nat} {xs cs : List Value} {k : Nat} (h : w.ownsRow B 37 3 v n xs) (hg : w.heap[g]? = some (.cells cs.toArray 62 (0, 0))) (hk : v.ownBlock = some k) : k ≠ g := by
  rcases h.2 with ⟨rfl, h0⟩ | ⟨g', cap, cur, rfl, hB, hg', hnc, hcm, hcs, htk⟩
  · cases hk
  · rintro rfl
    have : some g' = some k := hk
    injection this with this; subst this
    rw [hg] at hg'
    injection hg' with hg'
    injection hg' with _ ht _
    revert ht; decide
theorem below_set {w : World} {B g : Nat} (h : B ≤ g) (i : Nat) (u : Value) : RowKit.Below B w (w.setCell ⟨g, i, none⟩ u) := (RowKit.Below.refl B w).setCell (p := ⟨g, i, none⟩) h u
theorem ScIs.text {w : World} {B g : Nat} {s s' : ByteArray} {l : List Mt'} (h : ScIs w B g s l) : ScIs (w.setCell ⟨g, 0, none⟩ (.string s')) B g s' l := by
  obtain ⟨A, c, hg, ho⟩ := h.box
  refine ⟨h.low, A, c, by simpa using set_blk hg 0 (.string s'), ?_⟩
  exact own_moved ho fun k hk => by
    have hne := mt_apart (cs := [.string s, .slice A l.length c]) ho hg hk
    have m : Mv (fun k => k = g) w (w.setCell ⟨g, 0, none⟩ (.string s')) := (Mv.refl (fun k => k = g) w).setCell (p := ⟨g, 0, none⟩) (fun _ => rfl) _
    exact m.block k (ho.lt k hk).2 hne
theorem ScIs.below {w w' : World} {B g : Nat} {s : ByteArray} {l : List Mt'} (h : ScIs w B g s l) (m : RowKit.Below w.heap.size w w') : ScIs w' B g s l := by
  obtain ⟨A, c, hg, ho⟩ := h.box
  exact ⟨h.low, A, c, (m.block g (blk_lt hg)).trans hg, own_below_mt ho m⟩
theorem undrewM {B : Nat} {w w' : World} (h : RowKit.Below B w.drew w') : RowKit.Below B w w' := ⟨h.os, h.tape, h.output, h.size, h.block⟩
section
set_option maxHeartbeats 1600000
set_option maxRecDepth 100000
theorem cut_any (g n : Nat) (s : ByteArray) (v : Value) (w : World) (hg : w.heap[g]? = some (.cells #[.string s, v] 62 (0, 0))) (hn : n ≤ s.size) (hs : s.size ≤ 1000000) :
    Calls Tryz.prog 51 #[.pointer (some ⟨g, 0, none⟩), .int .i64 (n : Int)] w fun e w' => e = .returned (.string (mkB ((bl s).take n))) ∧ w' = w.setCell ⟨g, 0, none⟩ (.string (mkB ((bl s).drop n))) := by
  have c0 := cell_blk hg 0
  simp only [List.getElem?_toArray, List.getElem?_cons_zero, List.getElem?_cons_succ] at c0
  have k0 : (0 : Int) ≤ (n : Int) := by omega
  have k1 : (n : Int) ≤ (s.size : Int) := by omega
  have f0 := free_blk hg 0
  rw [← extract_head, ← extract_tail]
  go_enter Tryz.func51, Tryz.ntmps51
  go_wp2
  go_ret
  exact ⟨rfl, rfl⟩
theorem mark_any (g : Nat) (s m : ByteArray) (v : Value) (w : World) (hg : w.heap[g]? = some (.cells #[.string s, v] 62 (0, 0))) :
    Calls Tryz.prog 29 #[.pointer (some ⟨g, 0, none⟩), .string m] w fun e w' => e = .returned (.bool (prefB (bl m) (bl s))) ∧ w' = w.setCell ⟨g, 0, none⟩ (.string (mkB (restB (bl m) (bl s)))) := by
  have c0 := cell_blk hg 0
  simp only [List.getElem?_toArray, List.getElem?_cons_zero, List.getElem?_cons_succ] at c0
  have f0 := free_blk hg 0
  have HC := Lib.hid (cutp_any s m w)
  generalize mkB (restB (bl m) (bl s)) = r at HC ⊢
  generalize prefB (bl m) (bl s) = b at HC ⊢
  go_enter Tryz.func29, Tryz.ntmps29
  go_wp2_with fail
  refine HC.out.mono ?_
  rintro e w1 ⟨rfl, rfl⟩
  go_wp2
  go_ret
  exact ⟨rfl, rfl⟩
theorem word_any (g : Nat) (s : ByteArray) (v : Value) (w : World) (hg : w.heap[g]? = some (.cells #[.string s, v] 62 (0, 0))) (hs : s.size ≤ 1000000) :
    Calls Tryz.prog 50 #[.pointer (some ⟨g, 0, none⟩)] w fun e w' => e = .returned (.int .i64 (wordN (bl s) : Nat)) ∧ RowKit.Below w.heap.size w w' := by
  have hw : wordN (bl s) ≤ s.size := by rw [← bl_len]; exact wordN_le _
  have hsz : (mkB ((bl s).drop (wordN (bl s)))).size = s.size - wordN (bl s) := by rw [mkB_size, List.length_drop, bl_len]
  have HG := Lib.hid hg
  have HC := Lib.hid (fun W => trim_word s W)
  generalize mkB ((bl s).drop (wordN (bl s))) = r at HC hsz
  generalize wordN (bl s) = n at hw hsz ⊢
  have c0 := cell_blk hg 0
  simp only [List.getElem?_toArray, List.getElem?_cons_zero, List.getElem?_cons_succ] at c0
  have q1 : IntKind.i64.wrap ((s.size : Int) - ((s.size - n : Nat) : Int)) = (n : Int) := by rw [show (s.size : Int) - ((s.size - n : Nat) : Int) = (n : Int) by omega]; exact IntWalk.i64_in _ (by omega)
  unfold letterS at HC
  have HS := Lib.hid (fun (W' : World) (hb : RowKit.Below w.heap.size w W') => show W'.cell? ⟨g, 0, none⟩ = some (.string s) from by
    have := cell_blk ((hb.block g (blk_lt HG.out)).trans HG.out) 0
    simpa using this)
  have HBc := Lib.hid (RowKit.Below.refl w.heap.size w)
  clear hg
  go_enter Tryz.func50, Tryz.ntmps50
  go_wp2_with fail
  go_region_held3 (fun W' => W'.cell? ⟨g, 0, none⟩ = some (.string s)) (first | exact HS.out _ HBc.out | exact HS.out _ (below_drewN HBc.out _)) (first
    | (go_at_call 27; go_must (refine (HC.out _).mono ?_; rintro e wq ⟨rfl, hbq⟩; (try (have hq1 := undrewM hbq; clear hbq; have hbq := hq1; clear hq1)); have hq1 := HBc.out.trans (hbq.mono HBc.out.size); have HBc := Lib.hid hq1; clear hq1 hbq))
    | fail)
  all_goals
    go_wp2
    go_ret
    exact ⟨rfl, by first | exact HBc.out | exact below_drewN HBc.out _⟩
theorem last_any (g b n c : Nat) (s : Value) (w : World) (hg : w.heap[g]? = some (.cells #[s, .slice (some ⟨b, 0, none⟩) n c] 62 (0, 0))) (h1 : 1 ≤ n) (hn : n ≤ 1000000) :
    Calls Tryz.prog 53 #[.pointer (some ⟨g, 0, none⟩)] w fun e w' => e = .returned (.pointer (some ⟨b, (n - 1) * 3, none⟩)) ∧ ∃ k, w' = w.drewN k := by
  have c0 := cell_blk hg 1
  simp only [List.getElem?_toArray, List.getElem?_cons_zero, List.getElem?_cons_succ] at c0
  have k0 : (0 : Int) ≤ (n : Int) - 1 := by omega
  have k1 : (n : Int) - 1 < (n : Int) := by omega
  have k2 : ((n : Int) - 1) = ((n - 1 : Nat) : Int) := by omega
  have HG := Lib.hid hg; clear hg
  go_enter Tryz.func53, Tryz.ntmps53
  go_wp2_with fail
  go_quiet (fail)
  go_wp2
  go_ret
  exact ⟨rfl, nq, rfl⟩
def ScOut (w : World) (B g : Nat) (b : Bool) (s s' : ByteArray) (l l' : List Mt') (e : Ending) (w' : World) : Prop :=
  e = .returned (.bool b) ∧ (match b with | true => ScIs w' B g s' l' | false => ScIs w' B g s l) ∧ RowKit.Below B w w'
theorem sc_app {w : World} {B g : Nat} {sr : ByteArray} {A : Option Addr} {n c : Nat} {v : Value} {l : List Mt'} (hg : w.heap[g]? = some (.cells #[.string sr, .slice A n c] 62 (0, 0))) (ho : w.ownsRow B 37 3 v l.length (mcells l)) (hlow : B ≤ g) :
    ScIs (w.setCell ⟨g, 1, none⟩ v) B g sr l := by
  obtain ⟨A', c', e, -⟩ := own_rd_mt ho
  subst e
  refine ⟨hlow, A', c', by simpa using set_blk hg 1 (.slice A' l.length c'), own_moved ho fun k hk => ?_⟩
  have hne := mt_apart (cs := [.string sr, .slice A n c]) ho hg hk
  have m : Mv (fun k => k = g) w (w.setCell ⟨g, 1, none⟩ (.slice A' l.length c')) := (Mv.refl (fun k => k = g) w).setCell (p := ⟨g, 1, none⟩) (fun _ => rfl) _
  exact m.block k (ho.lt k hk).2 hne
end
end
section
set_option linter.unusedVariables false
set_option linter.unusedSimpArgs false
open Go.RowKit
section
set_option maxHeartbeats 3200000
set_option maxRecDepth 100000
theorem metric_any (w : World) (B g : Nat) (s : ByteArray) (l : List Mt') (h : ScIs w B g s l) (hBw : B ≤ w.heap.size) (hs : s.size ≤ 1000000) (hl : l.length ≤ 100000) :
    Calls Tryz.prog 28 #[.pointer (some ⟨g, 0, none⟩)] w (ScOut w B g (metricF (bl s)) s (mkB ((bl s).drop (wordN (bl s)))) l (l ++ [(1, bareName, mkB ((bl s).take (wordN (bl s))))])) := by
  obtain ⟨hlow, A, c, hg, ho⟩ := h
  have hn : wordN (bl s) ≤ s.size := by rw [← bl_len]; exact wordN_le _
  have HW := Lib.hid (word_any g s (.slice A l.length c) w hg hs)
  have hN := fun W => named_any (s.extract 0 1) W
  rw [show bl (s.extract 0 1) = (bl s).take 1 by rw [extract_head, bl_mk]] at hN
  have HN := Lib.hid hN
  have HG := Lib.hid hg; have HO := Lib.hid ho
  unfold metricF ScOut
  generalize hn' : wordN (bl s) = n at hn HW ⊢
  generalize namedP ((bl s).take 1) = N at HN ⊢
  generalize hsr : mkB ((bl s).drop n) = sr
  generalize hsn : mkB ((bl s).take n) = sn
  clear hN hg ho
  by_cases hz : n = 0
  · subst hz
    rw [decide_eq_false (by simp), Bool.false_and]
    go_enter Tryz.func28, Tryz.ntmps28
    go_wp2_with fail
    refine HW.out.mono ?_
    rintro e w1 ⟨rfl, hb1⟩
    have HB1 := Lib.hid hb1; clear hb1
    go_wp2
    go_ret
    exact ⟨rfl, ScIs.below ⟨hlow, A, c, HG.out, HO.out⟩ HB1.out, HB1.out.mono hBw⟩
  · rw [decide_eq_true hz, Bool.true_and]
    have hz2 : ¬ (n : Int) = 0 := by omega
    have hss : (1 : Int) ≤ (s.size : Int) := by omega
    go_enter Tryz.func28, Tryz.ntmps28
    go_wp2_with fail
    refine HW.out.mono ?_
    rintro e w1 ⟨rfl, hb1⟩
    have hg1 := (hb1.block g (blk_lt HG.out)).trans HG.out
    have c1 := cell_blk hg1 0
    simp only [List.getElem?_toArray, List.getElem?_cons_zero, List.getElem?_cons_succ] at c1
    have HB1 := Lib.hid hb1; clear hb1 hg1
    go_wp2_with fail
    refine (HN.out _).mono ?_
    rintro e w2 ⟨rfl, hb2'⟩
    have hb2 := HB1.out.trans (hb2'.mono HB1.out.size); clear hb2'
    cases N with
    | false =>
      have HB2 := Lib.hid hb2; clear hb2
      go_wp2
      go_ret
      exact ⟨rfl, ScIs.below ⟨hlow, A, c, HG.out, HO.out⟩ HB2.out, HB2.out.mono hBw⟩
    | true =>
      go_wp2_with fail

      have hg2 := (hb2.block g (blk_lt HG.out)).trans HG.out
      have ho2 := own_below_mt HO.out hb2
      have HB2 := Lib.hid hb2
      have hs2 := hb2.size
      have c2 := cell_blk hg2 1
      simp only [List.getElem?_toArray, List.getElem?_cons_zero, List.getElem?_cons_succ] at c2
      have HCUT := Lib.hid (fun (W : World) (hW : W = w2 ∨ W = w2.drew) => show Calls Tryz.prog 51 #[.pointer (some ⟨g, 0, none⟩), .int .i64 (n : Int)] W fun e w' => e = .returned (.string sn) ∧ w' = W.setCell ⟨g, 0, none⟩ (.string sr) from by
        rw [← hsr, ← hsn]; exact cut_any g n s (.slice A l.length c) W (by rcases hW with rfl | rfl <;> exact hg2) hn hs)
      have hcw : ∀ W : World, (W = w2 ∨ W = w2.drew) → ∀ w3, w3 = W.setCell ⟨g, 0, none⟩ (.string (sr)) → w3.heap[g]? = some (.cells #[.string (sr), .slice A l.length c] 62 (0, 0)) ∧ w3.ownsRow B 37 3 (.slice A l.length c) l.length (mcells l) ∧ RowKit.Below B w w3 := by
        rintro W hW w3 rfl
        have hgW : W.heap[g]? = some (.cells #[.string s, .slice A l.length c] 62 (0, 0)) := by rcases hW with rfl | rfl <;> exact hg2
        have hoW : W.ownsRow B 37 3 (.slice A l.length c) l.length (mcells l) := by
          rcases hW with rfl | rfl
          · exact ho2
          · exact own_moved ho2 (fun _ _ => rfl)
        have hbW : RowKit.Below B w W := by
          rcases hW with rfl | rfl
          · exact hb2.mono hBw
          · exact below_drewN (hb2.mono hBw) 1
        obtain ⟨k1, k2⟩ := (ScIs.text (s' := sr) ⟨hlow, A, c, hgW, hoW⟩).box
        refine ⟨by simpa using set_blk hgW 0 (.string (sr)), own_moved hoW fun k hk => ?_, hbW.trans (below_set hlow 0 _)⟩
        have hne := mt_apart (cs := [.string s, .slice A l.length c]) hoW hgW hk
        have m : Mv (fun k => k = g) W (W.setCell ⟨g, 0, none⟩ (.string (sr))) := (Mv.refl (fun k => k = g) W).setCell (p := ⟨g, 0, none⟩) (fun _ => rfl) _
        exact m.block k (hoW.lt k hk).2 hne
      have HCW := Lib.hid hcw
      clear hg2 ho2 hb2 hcw
      go_region_law (first
        | (go_simp; go_at_call 51
           refine (HCUT.out _ (by first | exact .inl rfl | exact .inr rfl)).mono ?_
           rintro e w3 ⟨rfl, e3⟩
           obtain ⟨hg3, ho3, hb3⟩ := HCW.out _ (by first | exact .inl rfl | exact .inr rfl) w3 e3
           have c3 := cell_blk hg3 1
           simp only [List.getElem?_toArray, List.getElem?_cons_zero, List.getElem?_cons_succ] at c3
           have c3a : ∀ o : Obj, (w3.alloc o).cell? ⟨g, 1, none⟩ = some (.slice A l.length c) := fun o => by
             have := cell_blk ((Below.heap_alloc _ _ _ (blk_lt hg3)).trans hg3) 1 (w := w3.alloc o)
             simpa using this
           have HG3 := Lib.hid hg3; have HO3 := Lib.hid ho3; have HB3 := Lib.hid hb3
           have hs3 : B ≤ w3.heap.size := Nat.le_trans hBw hb3.size
           clear hg3 ho3 hb3 e3)
        | (refine step_append_mt rfl (.tmp 21) (.tmp 26) rfl B (.slice A l.length c) l rfl (own_mvP (S := fun _ => False) HO3.out (by repeat (first | exact Mv.refl _ w3 | refine Mv.alloc ?_ _ | refine Mv.drew ?_)) (fun _ _ f => f)) (some ⟨w3.heap.size, 0, none⟩) 1 1 [(1, bareName, sn)] rfl rfl (by first | exact rd_row' w3 (mcells [(1, bareName, sn)]) _ | exact rd_row' w3.drew (mcells [(1, bareName, sn)]) _) (by simp; omega) (Nat.le_trans hs3 (Mv.size (S := fun _ => False) (by repeat (first | exact Mv.refl _ w3 | refine Mv.alloc ?_ _ | refine Mv.drew ?_)))) ?_
           intro v4 w4 own4 grow4
           obtain ⟨A4, c4', e4, -⟩ := own_rd_mt own4
           subst e4
           have hm4 : Mv (fun k => (Value.slice A l.length c).ownBlock = some k) w3 w4 := Mv.grown (show Mv _ w3 _ from (by repeat (first | exact Mv.refl _ w3 | refine Mv.alloc ?_ _ | refine Mv.drew ?_))) grow4 (fun k _ e => e)
           have hb4 : RowKit.Below B w w4 := HB3.out.trans (hm4.belowB hs3 fun k hk e => by have := (HO3.out.lt k e).1; omega)
           have hg4 := (hm4.block g (blk_lt HG3.out) (fun e => mt_apart (cs := [.string sr, .slice A l.length c]) HO3.out HG3.out e rfl)).trans HG3.out
           have c4 := cell_blk hg4 1
           simp only [List.getElem?_toArray, List.getElem?_cons_zero, List.getElem?_cons_succ] at c4
           have f4 := free_blk hg4 1
           have HG4 := Lib.hid hg4; have HB4 := Lib.hid hb4; have HO4 := Lib.hid own4
           clear hg4 hb4 own4 grow4 hm4)
        | fail)
      all_goals
        go_wp2
        go_ret
        exact ⟨rfl, sc_app HG4.out (by have h := HO4.out; simp only [List.length_append, List.length_cons, List.length_nil, Nat.zero_add] at h ⊢; exact h) hlow, HB4.out.trans (below_set hlow 1 _)⟩
end
end
section
set_option linter.unusedVariables false
set_option linter.unusedSimpArgs false
open Go.RowKit
section
set_option maxHeartbeats 3200000
set_option maxRecDepth 100000
theorem name_any (w : World) (B g : Nat) (s : ByteArray) (l : List Mt') (h : ScIs w B g s l) (hBw : B ≤ w.heap.size) (hs : s.size ≤ 1000000) (hl : l.length ≤ 100000) :
    Calls Tryz.prog 30 #[.pointer (some ⟨g, 0, none⟩)] w (ScOut w B g (decide (wordN (bl s) ≠ 0)) s (mkB ((bl s).drop (wordN (bl s)))) l (l ++ [(0, mkB ((bl s).take (wordN (bl s))), noneB)])) := by
  obtain ⟨hlow, A, c, hg, ho⟩ := h
  have hn : wordN (bl s) ≤ s.size := by rw [← bl_len]; exact wordN_le _
  have HW := Lib.hid (word_any g s (.slice A l.length c) w hg hs)
  have HG := Lib.hid hg; have HO := Lib.hid ho
  unfold ScOut
  generalize hn' : wordN (bl s) = n at hn HW ⊢
  generalize hsr : mkB ((bl s).drop n) = sr
  generalize hsn : mkB ((bl s).take n) = sn
  clear hg ho
  by_cases hz : n = 0
  · subst hz
    rw [decide_eq_false (by simp)]
    go_enter Tryz.func30, Tryz.ntmps30
    go_wp2_with fail
    refine HW.out.mono ?_
    rintro e w1 ⟨rfl, hb1⟩
    have HB1 := Lib.hid hb1; clear hb1
    go_wp2
    go_ret
    exact ⟨rfl, ScIs.below ⟨hlow, A, c, HG.out, HO.out⟩ HB1.out, HB1.out.mono hBw⟩
  · rw [decide_eq_true hz]
    have hz2 : ¬ (n : Int) = 0 := by omega
    have hss : (1 : Int) ≤ (s.size : Int) := by omega
    go_enter Tryz.func30, Tryz.ntmps30
    go_wp2_with fail
    refine HW.out.mono ?_
    rintro e w2 ⟨rfl, hb2⟩
    go_wp2_with fail
    have hg2 := (hb2.block g (blk_lt HG.out)).trans HG.out
    have ho2 := own_below_mt HO.out hb2
    have HB2 := Lib.hid hb2
    have hs2 := hb2.size
    have c2 := cell_blk hg2 1
    simp only [List.getElem?_toArray, List.getElem?_cons_zero, List.getElem?_cons_succ] at c2
    have HCUT := Lib.hid (fun (W : World) (hW : W = w2 ∨ W = w2.drew) => show Calls Tryz.prog 51 #[.pointer (some ⟨g, 0, none⟩), .int .i64 (n : Int)] W fun e w' => e = .returned (.string sn) ∧ w' = W.setCell ⟨g, 0, none⟩ (.string sr) from by
      rw [← hsr, ← hsn]; exact cut_any g n s (.slice A l.length c) W (by rcases hW with rfl | rfl <;> exact hg2) hn hs)
    have hcw : ∀ W : World, (W = w2 ∨ W = w2.drew) → ∀ w3, w3 = W.setCell ⟨g, 0, none⟩ (.string (sr)) → w3.heap[g]? = some (.cells #[.string (sr), .slice A l.length c] 62 (0, 0)) ∧ w3.ownsRow B 37 3 (.slice A l.length c) l.length (mcells l) ∧ RowKit.Below B w w3 := by
      rintro W hW w3 rfl
      have hgW : W.heap[g]? = some (.cells #[.string s, .slice A l.length c] 62 (0, 0)) := by rcases hW with rfl | rfl <;> exact hg2
      have hoW : W.ownsRow B 37 3 (.slice A l.length c) l.length (mcells l) := by
        rcases hW with rfl | rfl
        · exact ho2
        · exact own_moved ho2 (fun _ _ => rfl)
      have hbW : RowKit.Below B w W := by
        rcases hW with rfl | rfl
        · exact hb2.mono hBw
        · exact below_drewN (hb2.mono hBw) 1
      obtain ⟨k1, k2⟩ := (ScIs.text (s' := sr) ⟨hlow, A, c, hgW, hoW⟩).box
      refine ⟨by simpa using set_blk hgW 0 (.string (sr)), own_moved hoW fun k hk => ?_, hbW.trans (below_set hlow 0 _)⟩
      have hne := mt_apart (cs := [.string s, .slice A l.length c]) hoW hgW hk
      have m : Mv (fun k => k = g) W (W.setCell ⟨g, 0, none⟩ (.string (sr))) := (Mv.refl (fun k => k = g) W).setCell (p := ⟨g, 0, none⟩) (fun _ => rfl) _
      exact m.block k (hoW.lt k hk).2 hne
    have HCW := Lib.hid hcw
    clear hg2 ho2 hb2 hcw
    go_region_law (first
      | (go_simp; go_at_call 51
         refine (HCUT.out _ (by first | exact .inl rfl | exact .inr rfl)).mono ?_
         rintro e w3 ⟨rfl, e3⟩
         obtain ⟨hg3, ho3, hb3⟩ := HCW.out _ (by first | exact .inl rfl | exact .inr rfl) w3 e3
         have c3 := cell_blk hg3 1
         simp only [List.getElem?_toArray, List.getElem?_cons_zero, List.getElem?_cons_succ] at c3
         have c3a : ∀ o : Obj, (w3.alloc o).cell? ⟨g, 1, none⟩ = some (.slice A l.length c) := fun o => by
           have := cell_blk ((Below.heap_alloc _ _ _ (blk_lt hg3)).trans hg3) 1 (w := w3.alloc o)
           simpa using this
         have HG3 := Lib.hid hg3; have HO3 := Lib.hid ho3; have HB3 := Lib.hid hb3
         have hs3 : B ≤ w3.heap.size := Nat.le_trans hBw hb3.size
         clear hg3 ho3 hb3 e3)
      | (refine step_append_mt rfl (.tmp 12) (.tmp 17) rfl B (.slice A l.length c) l rfl (own_mvP (S := fun _ => False) HO3.out (by repeat (first | exact Mv.refl _ w3 | refine Mv.alloc ?_ _ | refine Mv.drew ?_)) (fun _ _ f => f)) (some ⟨w3.heap.size, 0, none⟩) 1 1 [(0, sn, noneB)] rfl rfl (by first | exact rd_row' w3 (mcells [(0, sn, noneB)]) _ | exact rd_row' w3.drew (mcells [(0, sn, noneB)]) _) (by simp; omega) (Nat.le_trans hs3 (Mv.size (S := fun _ => False) (by repeat (first | exact Mv.refl _ w3 | refine Mv.alloc ?_ _ | refine Mv.drew ?_)))) ?_
         intro v4 w4 own4 grow4
         obtain ⟨A4, c4', e4, -⟩ := own_rd_mt own4
         subst e4
         have hm4 : Mv (fun k => (Value.slice A l.length c).ownBlock = some k) w3 w4 := Mv.grown (show Mv _ w3 _ from (by repeat (first | exact Mv.refl _ w3 | refine Mv.alloc ?_ _ | refine Mv.drew ?_))) grow4 (fun k _ e => e)
         have hb4 : RowKit.Below B w w4 := HB3.out.trans (hm4.belowB hs3 fun k hk e => by have := (HO3.out.lt k e).1; omega)
         have hg4 := (hm4.block g (blk_lt HG3.out) (fun e => mt_apart (cs := [.string sr, .slice A l.length c]) HO3.out HG3.out e rfl)).trans HG3.out
         have c4 := cell_blk hg4 1
         simp only [List.getElem?_toArray, List.getElem?_cons_zero, List.getElem?_cons_succ] at c4
         have f4 := free_blk hg4 1
         have HG4 := Lib.hid hg4; have HB4 := Lib.hid hb4; have HO4 := Lib.hid own4
         clear hg4 hb4 own4 grow4 hm4)
      | fail)
    all_goals
      go_wp2
      go_ret
      exact ⟨rfl, sc_app HG4.out (by have h := HO4.out; simp only [List.length_append, List.length_cons, List.length_nil, Nat.zero_add] at h ⊢; exact h) hlow, HB4.out.trans (below_set hlow 1 _)⟩
end
end
section
set_option linter.unusedVariables false
set_option linter.unusedSimpArgs false
open Go.RowKit
def signG : Nat → Bs → Option (Nat × Bs)
  | 0, _ => none
  | k + 1, s => if prefB (signM ((k + 1 : Nat) : Int)) s then some (k + 1, s.drop (signM ((k + 1 : Nat) : Int)).length) else signG k s
theorem pref_two (a b c d : UInt8) (r : Bs) : prefB [a, b] (c :: d :: r) = (decide (a = c) && decide (b = d)) := by
  unfold prefB
  rw [List.isPrefixOf, List.isPrefixOf, List.isPrefixOf, Bool.and_true]
  rfl
theorem pref_short (a b c : UInt8) : prefB [a, b] [c] = false := by
  unfold prefB
  rw [List.isPrefixOf]; simp [List.isPrefixOf]
theorem pref_one (a c : UInt8) (r : Bs) : prefB [a] (c :: r) = decide (a = c) := by
  unfold prefB
  rw [List.isPrefixOf, List.isPrefixOf, Bool.and_true]
  rfl
theorem signG_eq (s : Bs) : signF s = signG 4 s := by
  simp only [signG]
  rw [show signM ((3 + 1 : Nat) : Int) = [33, 126] from rfl, show signM ((2 + 1 : Nat) : Int) = [61, 126] from rfl, show signM ((1 + 1 : Nat) : Int) = [33, 61] from rfl, show signM ((0 + 1 : Nat) : Int) = [61] from rfl]
  cases s with
  | nil => rfl
  | cons c r =>
    rw [pref_one]
    cases r with
    | nil =>
      rw [pref_short, pref_short, pref_short]
      by_cases h : c = 61
      · subst h; rfl
      · rw [decide_eq_false (fun e => h e.symm)]
        unfold signF
        split <;> simp_all
    | cons d r =>
      rw [pref_two, pref_two, pref_two]
      by_cases h1 : c = 33
      · subst h1
        by_cases h2 : d = 126
        · subst h2; rfl
        · by_cases h3 : d = 61
          · subst h3; rfl
          · have n2 : ¬ (126 : UInt8) = d := fun e => h2 e.symm
            have n3 : ¬ (61 : UInt8) = d := fun e => h3 e.symm
            simp only [n2, n3, decide_false, Bool.and_false]
            unfold signF
            split <;> simp_all
      · by_cases h4 : c = 61
        · subst h4
          by_cases h2 : d = 126
          · subst h2; rfl
          · have n2 : ¬ (126 : UInt8) = d := fun e => h2 e.symm
            simp only [n2, decide_false, Bool.and_false]
            unfold signF
            split <;> simp_all
        · have n1 : ¬ (33 : UInt8) = c := fun e => h1 e.symm
          have n4 : ¬ (61 : UInt8) = c := fun e => h4 e.symm
          simp only [n1, n4, decide_false, Bool.false_and]
          unfold signF
          split <;> simp_all
theorem own_setM {w : World} {B : Nat} {e : TypeId} {size n cap g : Nat} {xs : List Value} (h : w.ownsRow B e size (.slice (some ⟨g, 0, none⟩) n cap) n xs) {j : Nat} (hj : j < n * size) (x : Value) :
    (w.setCell ⟨g, j, none⟩ x).ownsRow B e size (.slice (some ⟨g, 0, none⟩) n cap) n (xs.set j x) := by
  obtain ⟨hl, h2⟩ := h
  refine ⟨by rw [List.length_set]; exact hl, ?_⟩
  rcases h2 with ⟨e1, _⟩ | ⟨g', cap', cur, e1, hB, hh, hn, hc, hs, ht⟩
  · cases e1
  · injection e1 with e1 e2 e3
    injection e1 with e1; injection e1 with e1
    subst e1
    refine .inr ⟨g, cap', _, by rw [e3], hB, set_blk hh j x, hn, hc, by simpa using hs, ?_⟩
    rw [Array.toList_setIfInBounds, List.take_set, ht]
theorem last_split {l : List Mt'} (h : l ≠ []) : ∃ d m, l = d ++ [m] := ⟨l.dropLast, l.getLast h, (List.dropLast_concat_getLast h).symm⟩
theorem endK_app (d : List Mt') (m : Mt') (k : Int) : endK (d ++ [m]) k = d ++ [(k, m.2.1, m.2.2)] := by unfold endK; simp
theorem endV_app (d : List Mt') (m : Mt') (v : ByteArray) : endV (d ++ [m]) v = d ++ [(m.1, m.2.1, v)] := by unfold endV; simp
theorem cells_last (d : List Mt') (m m' : Mt') (j : Nat) (u : Value) (hj : j < 3) (hu : mcells [m'] = (mcells [m]).set j u) : mcells (d ++ [m']) = (mcells (d ++ [m])).set (d.length * 3 + j) u := by
  rw [mcells_append, mcells_append, List.set_append_right _ _ (by rw [mcells_len]; omega), mcells_len, hu]
  congr 2; omega
/-- A cell of the last matcher, set. -/
theorem sc_last {w : World} {B g b c : Nat} {s : ByteArray} {d : List Mt'} {m m' : Mt'} {j : Nat} {u : Value} (hlow : B ≤ g) (hg : w.heap[g]? = some (.cells #[.string s, .slice (some ⟨b, 0, none⟩) (d ++ [m]).length c] 62 (0, 0)))
    (ho : w.ownsRow B 37 3 (.slice (some ⟨b, 0, none⟩) (d ++ [m]).length c) (d ++ [m]).length (mcells (d ++ [m]))) (hj : j < 3) (hu : mcells [m'] = (mcells [m]).set j u) (n : Nat) :
    ScIs ((w.drewN n).setCell ⟨b, d.length * 3 + j, none⟩ u) B g s (d ++ [m']) ∧ RowKit.Below B w ((w.drewN n).setCell ⟨b, d.length * 3 + j, none⟩ u) := by
  have hne : b ≠ g := mt_apart (cs := [.string s, .slice (some ⟨b, 0, none⟩) (d ++ [m]).length c]) ho hg rfl
  have hb := (ho.lt b rfl).1
  have ho2 : (w.drewN n).ownsRow B 37 3 (.slice (some ⟨b, 0, none⟩) (d ++ [m]).length c) (d ++ [m]).length (mcells (d ++ [m])) := own_moved ho (fun _ _ => rfl)
  have h3 := own_setM ho2 (j := d.length * 3 + j) (by simp; omega) u
  rw [← cells_last d m m' j u hj hu] at h3
  have hm : Mv (fun k => k = b) w ((w.drewN n).setCell ⟨b, d.length * 3 + j, none⟩ u) := ((Mv.refl (fun k => k = b) w).drewN n).setCell (p := ⟨b, d.length * 3 + j, none⟩) (fun _ => rfl) u
  refine ⟨⟨hlow, some ⟨b, 0, none⟩, c, ?_, ?_⟩, ?_⟩
  · have := (hm.block g (blk_lt hg) (fun e => hne e.symm)).trans hg
    simpa using this
  · simpa using h3
  · exact (below_drewN (RowKit.Below.refl B w) n).setCell (p := ⟨b, d.length * 3 + j, none⟩) hb u
section
set_option maxHeartbeats 3200000
set_option maxRecDepth 100000
theorem signK_any (k : Int) (w : World) : Calls Tryz.prog 21 #[.int .i64 k] w fun e w' => e = .returned (.string (mkB (signM k))) ∧ w' = w := by
  unfold signM
  by_cases h1 : k = 1
  · subst h1; go_enter Tryz.func21, Tryz.ntmps21; go_wp2; go_ret; exact ⟨rfl, rfl⟩
  · rw [if_neg h1]
    by_cases h2 : k = 2
    · subst h2; go_enter Tryz.func21, Tryz.ntmps21; go_wp2; go_ret; exact ⟨rfl, rfl⟩
    · rw [if_neg h2]
      by_cases h3 : k = 3
      · subst h3; go_enter Tryz.func21, Tryz.ntmps21; go_wp2; go_ret; exact ⟨rfl, rfl⟩
      · rw [if_neg h3]
        by_cases h4 : k = 4
        · subst h4; go_enter Tryz.func21, Tryz.ntmps21; go_wp2; go_ret; exact ⟨rfl, rfl⟩
        · rw [if_neg h4]; go_enter Tryz.func21, Tryz.ntmps21; go_wp2; go_ret; exact ⟨rfl, rfl⟩
theorem ssign_any (w : World) (B g : Nat) (s : ByteArray) (l : List Mt') (h : ScIs w B g s l) (hne : l ≠ []) (hl : l.length ≤ 100000) :
    Calls Tryz.prog 31 #[.pointer (some ⟨g, 0, none⟩)] w (ScOut w B g (signF (bl s)).isSome s (mkB ((signF (bl s)).map (·.2)).get!) l (endK l (((signF (bl s)).map (·.1)).get! : Nat))) := by
  obtain ⟨R, hR⟩ : ∃ R, signF (bl s) = R := ⟨_, rfl⟩
  rw [hR]
  rw [signG_eq] at hR
  have HH := Lib.hid h; have HR := Lib.hid hR
  unfold ScOut
  clear h hR
  go_enter Tryz.func31, Tryz.ntmps31
  go_wp2
  go_loopw [3] (fun s3 wr => ∃ k : Nat, s3 = .int .i64 k ∧ k ≤ 4 ∧ Aside (ScIs wr B g s l) ∧ Aside (RowKit.Below B w wr) ∧ Aside (signG k (bl s) = R)) (fun s3 _ => (intOf s3).toNat)
  case atStart => exact ⟨4, rfl, by omega, HH.out, RowKit.Below.refl _ _, HR.out⟩
  case round =>
    obtain ⟨k, rfl, hk, SI, BW, E⟩ := hrel
    cases k with
    | zero =>
      have hr : R = none := by rw [← E.out]; rfl
      subst hr
      go_wp2
      go_ret
      exact ⟨rfl, SI.out, BW.out⟩
    | succ k =>
      have k1 : (1 : Int) ≤ ((k + 1 : Nat) : Int) := by omega
      have k2 : ((k + 1 : Nat) : Int) - 1 = ((k : Nat) : Int) := by omega
      have hE := E.out
      unfold signG at hE
      obtain ⟨hlow, A, c, hg, ho⟩ := SI.out
      have HMK := Lib.hid (mark_any g s (mkB (signM ((k + 1 : Nat) : Int))) (.slice A l.length c) wr hg)
      have HSK := Lib.hid (fun W => signK_any ((k + 1 : Nat) : Int) W)
      generalize hsm : signM ((k + 1 : Nat) : Int) = sm at HMK HSK hE
      rw [bl_mk] at HMK
      go_wp2_with fail
      refine (HSK.out _).mono ?_
      rintro e w1 ⟨rfl, rfl⟩
      go_wp2_with fail
      refine HMK.out.mono ?_
      rintro e w2 ⟨rfl, e2⟩
      cases hp : prefB sm (bl s) with
      | false =>
        rw [hp] at hE
        have hE2 : signG k (bl s) = R := by rw [← hE]; simp
        have hs2 : ScIs w2 B g s l := by
          rw [e2, show mkB (restB sm (bl s)) = s by unfold restB; rw [hp]; exact mk_bl s]
          exact ScIs.text ⟨hlow, A, c, hg, ho⟩
        have hb2 : RowKit.Below B w w2 := by rw [e2]; exact BW.out.trans (below_set hlow 0 _)
        have HS2 := Lib.hid hs2; have HB2 := Lib.hid hb2; have HE2 := Lib.hid hE2
        clear hs2 hb2 hE2 hE e2 hg ho hp
        go_wp2_with fail
        go_roundw
        case rel => exact ⟨k, by go_num, by omega, (show Aside _ from HS2.out), (show Aside _ from HB2.out), (show Aside _ from HE2.out)⟩
        case measure => simp [intOf]
      | true =>
        rw [hp, if_pos rfl] at hE
        subst hE
        have hs2 : ScIs w2 B g (mkB ((bl s).drop sm.length)) l := by
          rw [e2, show restB sm (bl s) = (bl s).drop sm.length by unfold restB; rw [hp]; rfl]
          exact ScIs.text ⟨hlow, A, c, hg, ho⟩
        have hb2 : RowKit.Below B w w2 := by rw [e2]; exact BW.out.trans (below_set hlow 0 _)
        have HB2 := Lib.hid hb2
        clear hb2 e2 hg ho hp
        obtain ⟨d, m, rfl⟩ := last_split hne
        obtain ⟨-, A2, c2, hg2, ho2⟩ := hs2
        rcases ho2.2 with ⟨e0, h0⟩ | ⟨b, cap, cur, e0, -, hgb, -⟩
        · simp at h0
        injection e0 with e0 _ e0'
        subst e0; subst e0'
        obtain ⟨k1', -, -⟩ := mcells_at (d ++ [m]) d.length (by simp)
        obtain ⟨A3, c3, e3, hr3, -⟩ := own_rd_mt ho2
        injection e3 with e3 _ _
        subst e3
        obtain ⟨b', off', e3, cb⟩ := hr3 (d.length * 3) _ k1'
        injection e3 with e3; injection e3 with e3 e4 _; subst e3; subst e4
        rw [Nat.zero_add] at cb
        have fb := free_blk hgb (d.length * 3)
        have hlst := last_any g b (d ++ [m]).length c2 _ w2 hg2 (by simp) (by omega)
        rw [show (d ++ [m]).length - 1 = d.length by simp] at hlst
        have HL := Lib.hid hlst; have HG2 := Lib.hid hg2; have HO2 := Lib.hid ho2
        clear hlst hg2 ho2 hr3 k1' hgb
        go_wp2_with fail
        refine HL.out.mono ?_
        rintro e w3 ⟨rfl, n, rfl⟩
        have cb3 : (w2.drewN n).cell? ⟨b, d.length * 3, none⟩ = some (.int .i64 (d ++ [m])[d.length].1) := cb
        have fb3 : (w2.drewN n).frozen? ⟨b, d.length * 3, none⟩ = false := fb
        go_wp2
        go_ret
        obtain ⟨r1, r2⟩ := sc_last (j := 0) (m' := (((k + 1 : Nat) : Int), m.2.1, m.2.2)) (u := .int .i64 ((k + 1 : Nat) : Int)) hlow HG2.out HO2.out (by omega) rfl n
        rw [Nat.add_zero] at r1 r2
        refine ⟨rfl, ?_, HB2.out.trans r2⟩
        simp only [Option.map_some, Option.get!_some]
        rw [endK_app]
        exact r1
theorem svalue_any (w : World) (B g : Nat) (s : ByteArray) (l : List Mt') (h : ScIs w B g s l) (hBw : B ≤ w.heap.size) (hs : s.size ≤ 1000000) (hne : l ≠ []) (hl : l.length ≤ 100000) :
    Calls Tryz.prog 32 #[.pointer (some ⟨g, 0, none⟩)] w (ScOut w B g (decide ((unqP (bl s)).2.2 = 0)) s (mkB ((bl s).drop (unqP (bl s)).2.1)) l (endV l (mkB (unqP (bl s)).1))) := by
  obtain ⟨hlow, A, c, hg, ho⟩ := h
  have HU := Lib.hid (fun W => unq_any s W hs)
  have hle : (unqP (bl s)).2.2 = 0 → (unqP (bl s)).2.1 ≤ s.size := fun e => by rw [← bl_len]; exact (unqP_le e).2.1
  obtain ⟨U, hU⟩ : ∃ U, unqP (bl s) = U := ⟨_, rfl⟩
  rw [hU] at hle HU ⊢
  clear hU
  obtain ⟨v, n, er⟩ := U
  simp only at hle HU ⊢
  have c0 := cell_blk hg 0
  simp only [List.getElem?_toArray, List.getElem?_cons_zero, List.getElem?_cons_succ] at c0
  have HG := Lib.hid hg; have HO := Lib.hid ho
  clear hg ho
  unfold ScOut
  by_cases he : er = 0
  · subst he
    rw [decide_eq_true rfl]
    have hn := hle rfl
    go_enter Tryz.func32, Tryz.ntmps32
    go_wp2_with fail
    refine (HU.out _).mono ?_
    rintro e w1 ⟨rfl, hb1⟩
    have hg1 := (hb1.block g (blk_lt HG.out)).trans HG.out
    have ho1 := own_below_mt HO.out hb1
    have HCUT := Lib.hid (cut_any g n s (.slice A l.length c) w1 hg1 hn hs)
    have hs2 := ScIs.text (s' := mkB ((bl s).drop n)) ⟨hlow, A, c, hg1, ho1⟩
    have hb2 := (hb1.mono hBw).trans (below_set (w := w1) hlow 0 (.string (mkB ((bl s).drop n))))
    generalize hw2 : w1.setCell ⟨g, 0, none⟩ (.string (mkB ((bl s).drop n))) = w2 at HCUT hs2 hb2
    have HB2 := Lib.hid hb2
    clear hb1 hg1 ho1 hb2 hw2 hle hn
    go_wp2_with fail
    refine HCUT.out.mono ?_
    rintro e w2 ⟨rfl, rfl⟩
    obtain ⟨d, m, rfl⟩ := last_split hne
    obtain ⟨-, A2, c2, hg2, ho2⟩ := hs2
    rcases ho2.2 with ⟨e0, h0⟩ | ⟨b, cap, cur, e0, -, hgb, -⟩
    · simp at h0
    injection e0 with e0 _ e0'
    subst e0; subst e0'
    obtain ⟨-, -, k1'⟩ := mcells_at (d ++ [m]) d.length (by simp)
    obtain ⟨A3, c3, e3, hr3, -⟩ := own_rd_mt ho2
    injection e3 with e3 _ _
    subst e3
    obtain ⟨b', off', e3, cb⟩ := hr3 (d.length * 3 + 2) _ k1'
    injection e3 with e3; injection e3 with e3 e4 _; subst e3; subst e4
    rw [Nat.zero_add] at cb
    have fb := free_blk hgb (d.length * 3 + 2)
    have hlst := last_any g b (d ++ [m]).length c2 _ w2 hg2 (by simp) (by omega)
    rw [show (d ++ [m]).length - 1 = d.length by simp] at hlst
    have HL := Lib.hid hlst; have HG2 := Lib.hid hg2; have HO2 := Lib.hid ho2
    clear hlst hg2 ho2 hr3 k1' hgb
    go_wp2_with fail
    refine HL.out.mono ?_
    rintro e w3 ⟨rfl, n, rfl⟩
    have cb3 : (w2.drewN n).cell? ⟨b, d.length * 3 + 2, none⟩ = some (.string (d ++ [m])[d.length].2.2) := cb
    have fb3 : (w2.drewN n).frozen? ⟨b, d.length * 3 + 2, none⟩ = false := fb
    go_wp2
    go_ret
    obtain ⟨r1, r2⟩ := sc_last (j := 2) (m' := (m.1, m.2.1, mkB v)) (u := .string (mkB v)) hlow HG2.out HO2.out (by omega) rfl n
    refine ⟨rfl, ?_, HB2.out.trans r2⟩
    rw [endV_app]
    exact r1
  · rw [decide_eq_false he]
    have he2 : ¬ (er : Int) = 0 := by omega
    go_enter Tryz.func32, Tryz.ntmps32
    go_wp2_with fail
    refine (HU.out _).mono ?_
    rintro e w1 ⟨rfl, hb1⟩
    have HB1 := Lib.hid hb1; clear hb1
    go_wp2
    go_ret
    exact ⟨rfl, ScIs.below ⟨hlow, A, c, HG.out, HO.out⟩ HB1.out, HB1.out.mono hBw⟩
end
end
end Go.Proofs.YtinjdlplbficiaaGreatDoor
