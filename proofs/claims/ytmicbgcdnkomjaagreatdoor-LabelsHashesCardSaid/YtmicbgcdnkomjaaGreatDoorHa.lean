/-
  The sum of labels: the program's own.
-/
import Derived.Test.YtmicbgcdnkomjaaGreatDoorXX
import Derived.Test.YtmicbgcdnkomjaaGreatDoorRg
namespace Go.Proofs.YtmicbgcdnkomjaaGreatDoor
set_option linter.unusedVariables false
set_option linter.unusedSimpArgs false
open Go.RowKit
/-- The bytes that are summed of labels: each text with a byte behind it that no text has. -/
def endB (s : ByteArray) : Bs := bl s ++ [255]
def hashBs (l : List Lb) : Bs := l.flatMap fun x => endB x.1 ++ endB x.2
/-- The sum of labels, and what is wrong with them. -/
def hashP (l : List Lb) : Nat × Nat := if rightP l ≠ 0 then (0, rightP l) else (xx (hashBs l), 0)
theorem endB_len (s : ByteArray) : (endB s).length = s.size + 1 := by unfold endB; rw [List.length_append, bl_len]; rfl
/-- A row of the call's own beside a box of two texts. -/
structure Hst (w w' : World) (q : Nat) (x1 x2 : ByteArray) (v : Value) (acc : Bs) : Prop where
  own : w'.ownsRow w.heap.size 5 1 v acc.length (acc.map Bv)
  box : w'.heap[q]? = some (.cells #[.string x1, .string x2] 26 (0, 0))
  bel : RowKit.Below w.heap.size w w'
theorem Hst.alloc {w w' : World} {q : Nat} {x1 x2 : ByteArray} {v : Value} {acc : Bs} (h : Hst w w' q x1 x2 v acc) (o : Obj) : Hst w (w'.alloc o) q x1 x2 v acc :=
  ⟨h.own.alloc o, (Below.heap_alloc _ _ _ (blk_lt h.box)).trans h.box, h.bel.alloc h.bel.size _⟩
theorem Hst.grown {w w' w'' : World} {q : Nat} {x1 x2 : ByteArray} {v v' : Value} {acc ys : Bs} (h : Hst w w' q x1 x2 v acc) (hg : w'.grownBy w'' v.ownBlock) (ho : w''.ownsRow w.heap.size 5 1 v' (acc.length + ys.length) (acc.map Bv ++ ys.map Bv)) : Hst w w'' q x1 x2 v' (acc ++ ys) :=
  ⟨by rw [List.length_append, List.map_append]; exact ho, (hg.block q (blk_lt h.box) (Ne.symm (own_blk h.own h.box (by decide)))).trans h.box, h.bel.grown hg h.bel.size (fun k hk => (h.own.lt k hk).1)⟩
theorem Hst.second {w w' : World} {q : Nat} {x1 x2 : ByteArray} {v : Value} {acc : Bs} (h : Hst w w' q x1 x2 v acc) : w'.cell? ⟨q, 1, none⟩ = some (.string x2) := cell_blk h.box 1
theorem rd255 (w : World) : Rd (w.alloc (.cells #[.int .u8 255] 5)) (some ⟨w.heap.size, 0, none⟩) [.int .u8 255] := rd_row' w [.int .u8 255] 5
section
set_option maxHeartbeats 1600000
set_option maxRecDepth 100000
theorem hash_any (A : Option Addr) (c : Nat) (l : List Lb) (w : World) (hT : Tabs w) (hx : Rd w A (lcells l)) (hf : Few l) :
    Calls Tryz.prog 24 #[.slice A l.length c] w fun e w' => e = .returned (.tuple #[.int .u64 ((hashP l).1 : Nat), .int .i64 ((hashP l).2 : Nat)]) ∧ Below w.heap.size w w' := by
  have hr := right_any A c l w hT hx hf
  obtain ⟨r, hrr⟩ : ∃ r, r = rightP l := ⟨_, rfl⟩
  obtain ⟨R, hR⟩ : ∃ R, R = hashP l := ⟨_, rfl⟩
  rw [← hR]
  unfold hashP at hR
  rw [← hrr] at hr hR
  clear hrr
  have HRI := Lib.hid hr; clear hr
  have hfl := hf.1
  have HF := Lib.hid hf; clear hf
  by_cases h0 : r = 0
  · subst h0
    rw [if_neg (by simp)] at hR
    obtain ⟨Y, hY⟩ : ∃ Y, Y = hashBs l := ⟨_, rfl⟩
    rw [← hY] at hR
    have hst : Y = [] ++ hashBs (l.drop 0) := by rw [hY]; rfl
    have HST := Lib.hid hst; have HR := Lib.hid hR; clear hst hR hY
    obtain ⟨i0, hi, hz0, hz1, hz2⟩ := info_parts infoU8
    go_enter Tryz.func24, Tryz.ntmps24
    go_wp2_with fail
    refine HRI.out.mono ?_
    rintro e w1 ⟨rfl, hb1⟩
    have HB1 := Lib.hid hb1; clear hb1
    go_wp2
    go_loopw [5, 15] (fun s5 s15 wr => ∃ (k : Nat) (acc : Bs), s15 = .int .i64 k ∧ k ≤ l.length ∧ acc.length ≤ k * 20000 ∧ Aside (wr.ownsRow w.heap.size 5 1 s5 acc.length (acc.map Bv)) ∧ Aside (RowKit.Below w.heap.size w wr) ∧ Aside (Y = acc ++ hashBs (l.drop k))) (fun _ s15 _ => l.length - (intOf s15).toNat)
    case atStart => exact ⟨0, [], rfl, by omega, by simp, World.ownsRow_nil _ _ _ _, HB1.out, HST.out⟩
    case round =>
      obtain ⟨k, acc, rfl, hk, hal, OW, BW, E⟩ := hrel
      have k0 : (0 : Int) ≤ (k : Int) := by omega
      obtain ⟨A5, c5, hv5, hrd5, -, hac5, hcm5⟩ := own_rd OW.out
      subst hv5
      by_cases hlt : k < l.length
      · have k1 : (k : Int) < (l.length : Int) := by omega
        obtain ⟨b, off, rfl, c0, c1⟩ := lb_at (hx.below BW.out) hlt
        have hfx := HF.out.2 l[k] (List.getElem_mem hlt)
        have hE : Y = (acc ++ bl l[k].1 ++ [255] ++ bl l[k].2 ++ [255]) ++ hashBs (l.drop (k + 1)) := by
          rw [E.out]; unfold hashBs; rw [List.drop_eq_getElem_cons hlt, List.flatMap_cons]; simp only [List.append_assoc, endB]
        have HE := Lib.hid hE; clear hE E hx hrd5
        generalize l[k] = x at c0 c1 hfx HE
        obtain ⟨x1, x2⟩ := x
        simp only at hfx c0 c1
        obtain ⟨f1, f2⟩ := hfx
        have hS1 : Hst w (wr.alloc (.cells #[.string x1, .string x2] 26)) wr.heap.size x1 x2 (.slice A5 acc.length c5) acc := ⟨OW.out.alloc _, heap_alloc_new _ _, BW.out.alloc BW.out.size _⟩
        have HS1 := Lib.hid hS1
        have hsz1 := hS1.bel.size
        have hn1 : (bl x1).length = x1.size := bl_len x1
        have hn2 : (bl x2).length = x2.size := bl_len x2
        have l1 : (acc ++ bl x1).length ≤ k * 20000 + 6000 := by rw [List.length_append]; omega
        have l2 : (acc ++ bl x1 ++ [255]).length ≤ k * 20000 + 6001 := by rw [List.length_append]; simp only [List.length_singleton]; omega
        have l3 : (acc ++ bl x1 ++ [255] ++ bl x2).length ≤ k * 20000 + 12001 := by rw [List.length_append]; omega
        have l4 : (acc ++ bl x1 ++ [255] ++ bl x2 ++ [255]).length ≤ (k + 1) * 20000 := by rw [List.length_append]; simp only [List.length_singleton]; omega
        have HN1 := Lib.hid hn1; have HN2 := Lib.hid hn2
        clear hn1 hn2 hS1
        obtain ⟨a1, ha1⟩ : ∃ a1, a1 = acc ++ bl x1 := ⟨_, rfl⟩
        rw [← ha1] at l1 l2 l3 l4 HE
        obtain ⟨a2, ha2⟩ : ∃ a2, a2 = a1 ++ [255] := ⟨_, rfl⟩
        rw [← ha2] at l2 l3 l4 HE
        obtain ⟨a3, ha3⟩ : ∃ a3, a3 = a2 ++ bl x2 := ⟨_, rfl⟩
        rw [← ha3] at l3 l4 HE
        obtain ⟨a4, ha4⟩ : ∃ a4, a4 = a3 ++ [255] := ⟨_, rfl⟩
        rw [← ha4] at l4 HE
        have HA1 := Lib.hid ha1; have HA2 := Lib.hid ha2; have HA3 := Lib.hid ha3; have HA4 := Lib.hid ha4; clear ha1 ha2 ha3 ha4
        have key1 : ∀ (w' w'' : World) (v v' : Value) (ac a' : Bs) (s : ByteArray), Hst w w' wr.heap.size x1 x2 v ac → a' = ac ++ bl s → w'.grownBy w'' v.ownBlock → w''.ownsRow w.heap.size 5 1 v' (ac.length + s.size) (ac.map Bv ++ Lib.strCells s) → Hst w w'' wr.heap.size x1 x2 v' a' := fun w' w'' v v' ac a' s h e hg ho => by
          subst e; exact h.grown hg (by rw [bl_len]; exact ho)
        have key2 : ∀ (w' w'' : World) (v v' : Value) (ac a' : Bs), Hst w w' wr.heap.size x1 x2 v ac → a' = ac ++ [255] → w'.grownBy w'' v.ownBlock → w''.ownsRow w.heap.size 5 1 v' (ac.length + 1) (ac.map Bv ++ [.int .u8 255]) → Hst w w'' wr.heap.size x1 x2 v' a' := fun w' w'' v v' ac a' h e hg ho => by
          subst e; exact h.grown hg ho
        have K1 := Lib.hid key1; have K2 := Lib.hid key2; clear key1 key2
        go_wp2_with (first
          | (at_builtin; (refine Lib.wpList_append_own_string _ rfl _ _ 37 9 rfl w.heap.size 5 i0 Tryz.underlying37 Tryz.underlying9 hi hz0 hz1 hz2 _ acc.length (acc.map Bv) rfl HS1.out.own x1 rfl (by unfold maxLen; omega) (by omega) (by omega) ?_; intro v2 w2 own2 grow2 hg2; have HS2 := Lib.hid (K1.out _ _ _ _ _ _ _ HS1.out HA1.out grow2 own2); have HS2a := Lib.hid (HS2.out.alloc (.cells #[.int .u8 255] 5)); have hsz2 := HS2a.out.bel.size; clear own2 grow2))
          | (at_builtin; (refine wpList_append_rd rfl _ _ 37 rfl w.heap.size 5 i0 (.int .u8 0) 1 Tryz.underlying37 hi hz0 hz1 hz2 rfl v2 a1.length (a1.map Bv) rfl HS2a.out.own (some ⟨w2.heap.size, 0, none⟩) 1 [.int .u8 255] rfl (rd255 w2) (by intro u hu; rw [List.mem_singleton] at hu; rw [hu]; rfl) (by unfold maxLen; simp only [List.length_singleton]; omega) (by simp only [List.length_singleton]; omega) (by omega) ?_; intro v3 w3 own3 grow3; have HS3 := Lib.hid (K2.out _ _ _ _ _ _ HS2a.out HA2.out grow3 own3); have d3 := HS3.out.second; have hsz3 := HS3.out.bel.size; clear own3 grow3))
          | (at_builtin; (refine Lib.wpList_append_own_string _ rfl _ _ 37 9 rfl w.heap.size 5 i0 Tryz.underlying37 Tryz.underlying9 hi hz0 hz1 hz2 v3 a2.length (a2.map Bv) rfl HS3.out.own x2 rfl (by unfold maxLen; omega) (by omega) (by omega) ?_; intro v4 w4 own4 grow4 hg4; have HS4 := Lib.hid (K1.out _ _ _ _ _ _ _ HS3.out HA3.out grow4 own4); have HS4a := Lib.hid (HS4.out.alloc (.cells #[.int .u8 255] 5)); have hsz4 := HS4a.out.bel.size; clear own4 grow4))
          | (at_builtin; (refine wpList_append_rd rfl _ _ 37 rfl w.heap.size 5 i0 (.int .u8 0) 1 Tryz.underlying37 hi hz0 hz1 hz2 rfl v4 a3.length (a3.map Bv) rfl HS4a.out.own (some ⟨w4.heap.size, 0, none⟩) 1 [.int .u8 255] rfl (rd255 w4) (by intro u hu; rw [List.mem_singleton] at hu; rw [hu]; rfl) (by unfold maxLen; simp only [List.length_singleton]; omega) (by simp only [List.length_singleton]; omega) (by omega) ?_; intro v5 w5 own5 grow5; have HS5 := Lib.hid (K2.out _ _ _ _ _ _ HS4a.out HA4.out grow5 own5); clear own5 grow5))
          | fail)
        have HB5 := Lib.hid HS5.out.bel
        have HO5 := Lib.hid HS5.out.own
        clear d3
        go_wp2
        go_roundw
        case rel => exact ⟨k + 1, a4, by go_num, by omega, by omega, (show Aside _ from HO5.out), (show Aside _ from HB5.out), (show Aside _ from HE.out)⟩
        case measure => simp [intOf]; omega
      · obtain rfl : k = l.length := by omega
        have hy : Y = acc := by rw [E.out, List.drop_length]; simp [hashBs]
        have hxx := xx_any wr A5 c5 acc.length acc rfl hrd5 hac5 (by unfold maxLen at hcm5; omega)
        have hR := HR.out
        rw [hy] at hR
        obtain ⟨z, hz⟩ : ∃ z, z = xx acc := ⟨_, rfl⟩
        rw [← hz] at hR hxx
        subst hR
        have HX := Lib.hid hxx; clear hxx hy E hrd5 hac5 hcm5 hz
        go_wp2_with fail
        refine HX.out.mono ?_
        rintro e w3 ⟨rfl, hb3⟩
        have HB3 := Lib.hid (BW.out.trans (hb3.mono BW.out.size)); clear hb3
        go_wp2
        go_ret2
        exact ⟨rfl, HB3.out⟩
  · rw [if_pos h0] at hR
    subst hR
    have g0 : ((r : Int) != 0) = true := by rw [bne_iff_ne]; omega
    go_enter Tryz.func24, Tryz.ntmps24
    go_wp2_with fail
    refine HRI.out.mono ?_
    rintro e w1 ⟨rfl, hb1⟩
    go_wp2
    go_ret2
    exact ⟨rfl, hb1⟩
end
end Go.Proofs.YtmicbgcdnkomjaaGreatDoor
