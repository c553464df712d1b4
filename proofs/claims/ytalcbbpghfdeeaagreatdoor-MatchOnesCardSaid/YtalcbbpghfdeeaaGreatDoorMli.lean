/-
  A Set's List; a Set is left by what writes lists of matchers.
-/
import Derived.Test.YtalcbbpghfdeeaaGreatDoorMn
namespace Go.Proofs.YtalcbbpghfdeeaaGreatDoor
set_option linter.unusedVariables false
set_option linter.unusedSimpArgs false
open Go.RowKit
theorem RexIs.mvt {w w' : World} {b g : Nat} {s : ByteArray} {t : Re} {cs : Array Value} (h : RexIs w b s t) (hg : w.heap[g]? = some (.cells cs 26 (0, 0))) (m : Mv (fun k => k = g) w w') : RexIs w' b s t := by
  obtain ⟨v, us, hb, ha⟩ := h.box
  refine ⟨⟨v, us, ?_, ha.len, ?_, fun i u a hu ha' => ?_⟩, h.few⟩
  · refine (m.block b (blk_lt hb) fun e => ?_).trans hb
    subst e
    rw [hg] at hb; injection hb with hb; injection hb with _ ht _
    revert ht; decide
  · exact own_moved ha.row fun k hk => m.block k (ha.row.lt k hk).2 (own_apart (by decide) ha.row hg hk)
  · exact own_moved (ha.sp i u a hu ha') fun k hk => m.block k ((ha.sp i u a hu ha').lt k hk).2 (own_apart (by decide) (ha.sp i u a hu ha') hg hk)
theorem FormOk.mvt {w w' : World} {m : Mt'} {f : Value} {g : Nat} {cs : Array Value} (h : FormOk w m f) (hg : w.heap[g]? = some (.cells cs 26 (0, 0))) (hm : Mv (fun k => k = g) w w') : FormOk w' m f := by
  unfold FormOk at h ⊢
  split
  · rename_i e; rw [if_pos e] at h; exact h
  · rename_i e; rw [if_neg e] at h
    obtain ⟨b, t, h1, h2, h3⟩ := h
    exact ⟨b, t, h1, h2, h3.mvt hg hm⟩
theorem SetIs.mvt {w w' : World} {b g : Nat} {l : List Mt'} {cs : Array Value} (h : SetIs w b l) (hg : w.heap[g]? = some (.cells cs 26 (0, 0))) (m : Mv (fun k => k = g) w w') : SetIs w' b l := by
  obtain ⟨g2, c, L, cur, h1, h2, h3, h4, h5, h6, h7⟩ := h.box
  have n1 : b ≠ g := fun e => by subst e; rw [hg] at h1; injection h1 with h1; injection h1 with _ ht _; revert ht; decide
  have n2 : g2 ≠ g := fun e => by subst e; rw [hg] at h2; injection h2 with h2; injection h2 with _ ht _; revert ht; decide
  exact ⟨g2, c, L, cur, (m.block b (blk_lt h1) n1).trans h1, (m.block g2 (blk_lt h2) n2).trans h2, h3, h4, h5, h6, fun x hx => (h7 x hx).mvt hg m⟩
section
set_option maxHeartbeats 3200000
set_option maxRecDepth 100000
theorem mlist_any (b : Nat) (l : List Mt') (w : World) (h : SetIs w b l) (hl : l.length ≤ 1000) : Calls Tryz.prog 22 #[.pointer (some ⟨b, 0, none⟩)] w fun e w' =>
    ∃ A c, e = .returned (.slice A l.length c) ∧ w'.ownsRow w.heap.size 26 3 (.slice A l.length c) l.length (mcells l) ∧ RowKit.Below w.heap.size w w' := by
  obtain ⟨g, cc, L, cur, hb, hg, hcc, hcm, hcur, hL, hF⟩ := h.box
  have hLl : L.length = l.length := by rw [← hL, List.length_map]
  have c0 := cell_blk hb 0
  simp only [List.getElem?_toArray, List.getElem?_cons_zero, List.getElem?_cons_succ] at c0
  have HB := Lib.hid hb; have HG := Lib.hid hg; have HCUR := Lib.hid hcur; have HL := Lib.hid hL; have HF := Lib.hid hF
  clear hb hg hcur hL hF h
  unfold maxLen at hcm
  go_enter Tryz.func22, Tryz.ntmps22
  go_wp2
  go_loopw [13, 3] (fun s13 s3 wr => ∃ k : Nat, s13 = .int .i64 k ∧ k ≤ l.length ∧ Aside (wr.ownsRow w.heap.size 26 3 s3 (l.take k).length (mcells (l.take k))) ∧ Aside (RowKit.Below w.heap.size w wr)) (fun s13 _ _ => l.length - (intOf s13).toNat)
  case atStart => exact ⟨0, rfl, by omega, World.ownsRow_nil _ _ _ _, RowKit.Below.refl _ _⟩
  case round =>
    obtain ⟨k, rfl, hk, HO, BW⟩ := hrel
    have k0 : (0 : Int) ≤ (k : Int) := by omega
    obtain ⟨A3, c3, e3, -, -, -⟩ := own_rd_mt HO.out
    have hlk : (l.take k).length = k := by rw [List.length_take]; omega
    have ho := HO.out
    rw [e3, hlk] at ho
    rw [hlk] at e3
    subst e3
    have HO := Lib.hid (show wr.ownsRow w.heap.size 26 3 (.slice A3 k c3) (l.take k).length (mcells (l.take k)) by rw [hlk]; exact ho)
    clear ho
    by_cases hlt : k < l.length
    · have k1 : (k : Int) < (l.length : Int) := by omega
      have hltL : k < L.length := by omega
      have hgr := (BW.out.block _ (blk_lt HG.out)).trans HG.out
      obtain ⟨r0, r1, r2, r3⟩ := rcells_in HCUR.out hLl hltL
      have d0 := (cell_blk hgr (k * 4)).trans r0; have d1 := (cell_blk hgr (k * 4 + 1)).trans r1; have d2 := (cell_blk hgr (k * 4 + 2)).trans r2; have d3 := (cell_blk hgr (k * 4 + 3)).trans r3
      have hLk : L[k].1 = l[k] := by have h := HL.out; subst h; simp
      have hfk := HF.out L[k] (List.getElem_mem hltL)
      have htk : l.take (k + 1) = l.take k ++ [L[k].1] := by rw [hLk]; exact List.take_succ_eq_append_getElem hlt
      clear r0 r1 r2 r3 hgr hLk
      generalize L[k] = y at d0 d1 d2 d3 hfk htk
      obtain ⟨⟨y1, y2, y3⟩, f⟩ := y
      simp only at d0 d1 d2 d3 hfk htk
      obtain ⟨p, rfl⟩ := hfk.ptr
      have HTK := Lib.hid htk
      have hba : Mv (fun _ => False) wr ((wr.alloc (.cells #[.int .i64 y1, .string y2, .string y3, .pointer p] 67)).alloc (.cells #[.int .i64 y1, .string y2, .string y3] 26)) := ((Mv.refl _ wr).alloc _).alloc _
      have HBA := Lib.hid hba
      have hrd : Rd ((wr.alloc (.cells #[.int .i64 y1, .string y2, .string y3, .pointer p] 67)).alloc (.cells #[.int .i64 y1, .string y2, .string y3] 26)) (some ⟨wr.heap.size + 1, 0, none⟩) (mcells [(y1, y2, y3)]) := by
        have h := rd_row' (wr.alloc (.cells #[.int .i64 y1, .string y2, .string y3, .pointer p] 67)) (mcells [(y1, y2, y3)]) 26
        rw [show (wr.alloc (.cells #[.int .i64 y1, .string y2, .string y3, .pointer p] 67)).heap.size = wr.heap.size + 1 by simp] at h
        exact h
      have HRD := Lib.hid hrd
      clear hba htk hfk hrd
      go_wp2_with (first
        | (refine wpList_append_mt rfl (.tmp 17) (.tmp 20) rfl rfl w.heap.size (.slice A3 k c3) (l.take k) rfl (own_mvP HO.out HBA.out (fun _ _ f => f)) (some ⟨wr.heap.size + 1, 0, none⟩) 1 [(y1, y2, y3)] rfl HRD.out (by rw [hlk]; simp; omega) (Nat.le_trans BW.out.size HBA.out.size) ?_
           intro v4 w4 own4 grow4
           have hb4 : RowKit.Below w.heap.size w w4 := (BW.out.trans (HBA.out.below.mono BW.out.size)).grown grow4 (Nat.le_trans BW.out.size HBA.out.size) (fun k h => (HO.out.lt k h).1)
           have HB4 := Lib.hid hb4; have HO4 := Lib.hid own4
           clear hb4 own4 grow4)
        | fail)
      go_roundw
      case rel => exact ⟨k + 1, by go_num, by omega, (show Aside _ from by rw [HTK.out]; exact HO4.out), (show Aside _ from HB4.out)⟩
      case measure => simp [intOf]; omega
    · obtain rfl : k = l.length := by omega
      have ho := HO.out
      rw [List.take_length] at ho
      have HO2 := Lib.hid ho
      have HBW := Lib.hid BW.out
      clear ho HO BW
      go_wp2
      go_ret
      exact ⟨A3, c3, rfl, HO2.out, HBW.out⟩
end
end Go.Proofs.YtalcbbpghfdeeaaGreatDoor
