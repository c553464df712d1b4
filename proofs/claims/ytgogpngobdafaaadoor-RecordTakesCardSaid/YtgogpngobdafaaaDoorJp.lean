/-
  The record that bytes are: the program's own take and Take.
-/
import Derived.Test.YtgogpngobdafaaaDoorJo
import Derived.Test.YtgogpngobdafaaaDoorJc
import Derived.Test.YtgogpngobdafaaaDoorTa
namespace Go.Proofs.YtgogpngobdafaaaDoor
set_option linter.unusedVariables false
set_option linter.unusedSimpArgs false
open Go.RowKit
theorem results_rv3 {fn : Func} {p u v : Tmp} (h : fn.results = #[.cell p 27, .tmp u, .tmp v]) (tmps : Array Value) (w : World) (g : Nat) (cs : Array Value)
    (hp : tmps.getD p undef = .pointer (some ⟨g, 0, none⟩)) (hg : w.heap[g]? = some (.cells cs 27 (0, 0))) (hc : cs.size = 4) :
    (results fn tmps).run Tryd.prog w = .ok (.tuple #[.agg cs, tmps.getD u undef, tmps.getD v undef]) w := by
  have hp' : tmps[p]?.getD undef = .pointer (some ⟨g, 0, none⟩) := by simpa using hp
  simp [results, h, hp', asAddr, run_loadVar_row w g 27 27 cs (0, 0) _ hg Tryd.underlying27 rfl (by rw [hc]; kernel_rfl)]
theorem post_rv3 {fn : Func} {R : Ending → World → Prop} {a : Act} {w : World} {p u v : Tmp} (h : fn.results = #[.cell p 27, .tmp u, .tmp v]) (g : Nat) (cs : Array Value)
    (hp : a.tmps.getD p undef = .pointer (some ⟨g, 0, none⟩)) (hg : w.heap[g]? = some (.cells cs 27 (0, 0))) (hc : cs.size = 4) (hdf : a.defers = [])
    (hR : R (.returned (.tuple #[.agg cs, a.tmps.getD u undef, a.tmps.getD v undef])) w) : bodyPost Tryd.prog fn R .ret a w :=
  bodyPost_ret (results_rv3 h a.tmps w g cs hp hg hc) hdf hR
theorem results_rv2 {fn : Func} {p u : Tmp} (h : fn.results = #[.cell p 27, .tmp u]) (tmps : Array Value) (w : World) (g : Nat) (cs : Array Value)
    (hp : tmps.getD p undef = .pointer (some ⟨g, 0, none⟩)) (hg : w.heap[g]? = some (.cells cs 27 (0, 0))) (hc : cs.size = 4) :
    (results fn tmps).run Tryd.prog w = .ok (.tuple #[.agg cs, tmps.getD u undef]) w := by
  have hp' : tmps[p]?.getD undef = .pointer (some ⟨g, 0, none⟩) := by simpa using hp
  simp [results, h, hp', asAddr, run_loadVar_row w g 27 27 cs (0, 0) _ hg Tryd.underlying27 rfl (by rw [hc]; kernel_rfl)]
theorem post_rv2 {fn : Func} {R : Ending → World → Prop} {a : Act} {w : World} {p u : Tmp} (h : fn.results = #[.cell p 27, .tmp u]) (g : Nat) (cs : Array Value)
    (hp : a.tmps.getD p undef = .pointer (some ⟨g, 0, none⟩)) (hg : w.heap[g]? = some (.cells cs 27 (0, 0))) (hc : cs.size = 4) (hdf : a.defers = [])
    (hR : R (.returned (.tuple #[.agg cs, a.tmps.getD u undef])) w) : bodyPost Tryd.prog fn R .ret a w :=
  bodyPost_ret (results_rv2 h a.tmps w g cs hp hg hc) hdf hR
/-- Labels outlive what is done to a block that has no texts. -/
theorem lab_mv {w w' : World} {A : Option Addr} {l : List Lb} {g : Nat} {cs : Array Value} {t : TypeId} (m : Mv (fun k => k = g) w w') (h : Rd w A (lcells l)) (hg : w.heap[g]? = some (.cells cs t (0, 0))) (hs : ∀ (i : Nat) (s : ByteArray), cs[i]? ≠ some (Value.string s)) : Rd w' A (lcells l) := by
  cases l with
  | nil => exact Rd.nil _ _
  | cons x r =>
    refine m.rd h (fun k hk e hk2 => ?_)
    subst hk2
    obtain ⟨b, off, rfl, c0, -⟩ := lb_at h (k := 0) (by simp)
    have : b = k := by simpa using e
    subst this
    rw [cell_blk hg] at c0
    exact hs _ _ c0
theorem rd_mvJ {w w' : World} {A : Option Addr} {xs : List Value} {g : Nat} (m : Mv (fun k => k = g) w w') (h : Rd w A xs) (hA : A.map (·.block) ≠ some g) : Rd w' A xs := m.rd h (fun k hk e hk2 => hA (by rw [e, hk2]))
theorem no_text {kd r : Int} {a b : Value} (ha : ∀ s : ByteArray, a ≠ .string s) (hb : ∀ s : ByteArray, b ≠ .string s) : ∀ (i : Nat) (s : ByteArray), (#[Value.int .i64 kd, .int .u32 r, a, b] : Array Value)[i]? ≠ some (Value.string s) := by
  intro i s
  rw [List.getElem?_toArray]
  rcases i with _ | _ | _ | _ | i
  · simp
  · simp
  · simpa using ha s
  · simpa using hb s
  · simp
/-- The record that bytes begin with, of each kind: what it is, how many bytes it takes, what is wrong. -/
def takeK1 (b : Bs) : Rp × Nat × Nat :=
  if (uvS 0 0 b).2.2 ≠ 0 then (rp0, 0, (uvS 0 0 b).2.2)
  else if (uvS 0 0 b).1 = 0 ∨ 4294967295 < (uvS 0 0 b).1 then (rp0, 0, 1)
  else ((1, (uvS 0 0 b).1, (takeP (b.drop (uvS 0 0 b).2.1)).1, []), (uvS 0 0 b).2.1 + (takeP (b.drop (uvS 0 0 b).2.1)).2.1, (takeP (b.drop (uvS 0 0 b).2.1)).2.2)
def takeK2 (b : Bs) : Rp × Nat × Nat :=
  if (uvS 0 0 b).2.2 ≠ 0 then (rp0, 0, (uvS 0 0 b).2.2)
  else if 256 < (uvS 0 0 b).1 then (rp0, 0, 3)
  else if (uvS 0 0 b).1 = 0 then (rp0, 0, 1)
  else ((2, 0, [], (ensAt (uvS 0 0 b).1 en0 (b.drop (uvS 0 0 b).2.1)).1), (uvS 0 0 b).2.1 + (ensAt (uvS 0 0 b).1 en0 (b.drop (uvS 0 0 b).2.1)).2.1, (ensAt (uvS 0 0 b).1 en0 (b.drop (uvS 0 0 b).2.1)).2.2)
def takeK0 (b : Bs) : Rp × Nat × Nat := (rp0, 0, 130)
section
set_option maxHeartbeats 3200000
set_option maxRecDepth 100000
theorem tk_else (kd : Nat) (h1 : kd ≠ 1) (h2 : kd ≠ 2) (A : Option Addr) (c len : Nat) (xs : Bs) (w : World) (hT : Tabs w) (hle : xs.length = len) (hx : Rd w A (xs.map Bv)) (hc : len ≤ c) (hl : len ≤ 1000000) :
    Calls Tryd.prog 49 #[.int .i64 (kd : Nat), .slice A len c] w fun e w' => ∃ x : Rv,
      e = .returned (.tuple #[.agg (rvC x), .int .i64 ((takeK0 xs).2.1 : Nat), .int .i64 ((takeK0 xs).2.2 : Nat)]) ∧ ((takeK0 xs).2.2 = 0 → x.p = (takeK0 xs).1 ∧ RvIs w' x) ∧ Below w.heap.size w w' := by
  subst hle
  obtain ⟨w2, hw2⟩ : ∃ w2, w2 = (w.alloc (.cells #[.int .i64 0, .int .u32 0, .slice none 0 0, .slice none 0 0] 27)).alloc (.cells #[.int .i64 (kd : Nat), .int .u32 0, .slice none 0 0, .slice none 0 0] 27) := ⟨_, rfl⟩
  obtain ⟨b4, hb4⟩ : ∃ b, b = w.heap.size := ⟨_, rfl⟩
  obtain ⟨b7, hb7⟩ : ∃ b, b = w.heap.size + 1 := ⟨_, rfl⟩
  have h4 : w2.heap[b4]? = some (.cells #[.int .i64 0, .int .u32 0, .slice none 0 0, .slice none 0 0] 27 (0, 0)) := by rw [hw2, hb4]; exact (Below.heap_alloc _ _ _ (by simp)).trans (heap_alloc_new w _)
  have h7 : w2.heap[b7]? = some (.cells #[.int .i64 (kd : Nat), .int .u32 0, .slice none 0 0, .slice none 0 0] 27 (0, 0)) := by rw [hw2, hb7]; exact heap_alloc_new2 w _ _
  have hbe : RowKit.Below w.heap.size w w2 := by rw [hw2]; exact ((RowKit.Below.refl _ w).alloc (Nat.le_refl _) _).alloc (by simp) _
  have hne : b7 ≠ b4 := by omega
  have Y0 := cell_blk h7 0; have Y1 := cell_blk h7 1; have Y2 := cell_blk h7 2; have Y3 := cell_blk h7 3
  simp only [List.getElem?_toArray, List.getElem?_cons_zero, List.getElem?_cons_succ] at Y0 Y1 Y2 Y3
  have H4 := Lib.hid h4; have H7 := Lib.hid h7; have HB2 := Lib.hid hbe
  have H4B := Lib.hid (show w.heap.size ≤ b4 ∧ w.heap.size ≤ b7 from ⟨by omega, by omega⟩)
  have HW2 := Lib.hid hw2; have HB4 := Lib.hid hb4; have HB7 := Lib.hid hb7
  have HT := Lib.hid hT; have HX := Lib.hid hx
  clear hw2 hb4 hb7 h4 h7 hT hx
  have HR := Lib.hid (show takeK0 xs = (rp0, 0, 130) from rfl)
  have g1 : ((kd : Int) != 1) = true := by rw [bne_iff_ne]; omega
  have g2 : ((kd : Int) != 2) = true := by rw [bne_iff_ne]; omega
  have hst : (w.alloc (.cells #[.int .i64 0, .int .u32 0, .slice none 0 0, .slice none 0 0] 27)).heap.size = w.heap.size + 1 := by simp
  clear h1 h2 Y0 Y1 Y2 Y3 hbe
  have h7 := H7.out
  rw [HW2.out, HB7.out] at h7
  have Y0 := cell_blk h7 0; have Y1 := cell_blk h7 1; have Y2 := cell_blk h7 2; have Y3 := cell_blk h7 3
  simp only [List.getElem?_toArray, List.getElem?_cons_zero, List.getElem?_cons_succ] at Y0 Y1 Y2 Y3
  have h4 := H4.out
  rw [HW2.out, HB4.out] at h4
  have H4' := Lib.hid h4
  clear h4 h7 hst
  go_enter Tryd.func49, Tryd.ntmps49
  go_wp2_with (first
    | (refine wpList_store_agg (o := ⟨none, _, _, _, _, _⟩) ?_ 27 (.tmp 4) (.tmp 20) ?_ w.heap.size 0 [.int .i64 (kd : Nat), .int .u32 0, .slice none 0 0, .slice none 0 0] ?_ ?_ 27 _ H4'.out (by kernel_rfl) (by show 0 + 4 ≤ 4; decide) (by intro v hv; simp at hv; rcases hv with rfl | rfl | rfl | rfl <;> rfl) ?_; rfl; rfl; rfl; rfl; intro w9 hg9 hmv9 hs9)
    | fail)
  refine post_rv3 (by rfl) w.heap.size (rvC ⟨(kd : Nat), 0, none, 0, [], none, 0, []⟩) (by rfl) hg9 (by rfl) (by rfl) ?_
  have hb := HB2.out
  rw [HW2.out] at hb
  exact ⟨⟨(kd : Nat), 0, none, 0, [], none, 0, []⟩, rfl, fun h => absurd h (by rw [HR.out]; decide), hb.trans (hmv9.belowB hb.size (fun i hi e => by omega))⟩
theorem tk_one (A : Option Addr) (c len : Nat) (xs : Bs) (w : World) (hT : Tabs w) (hle : xs.length = len) (hx : Rd w A (xs.map Bv)) (hc : len ≤ c) (hl : len ≤ 1000000) :
    Calls Tryd.prog 49 #[.int .i64 1, .slice A len c] w fun e w' => ∃ x : Rv,
      e = .returned (.tuple #[.agg (rvC x), .int .i64 ((takeK1 xs).2.1 : Nat), .int .i64 ((takeK1 xs).2.2 : Nat)]) ∧ ((takeK1 xs).2.2 = 0 → x.p = (takeK1 xs).1 ∧ RvIs w' x) ∧ Below w.heap.size w w' := by
  subst hle
  obtain ⟨w2, hw2⟩ : ∃ w2, w2 = (w.alloc (.cells #[.int .i64 0, .int .u32 0, .slice none 0 0, .slice none 0 0] 27)).alloc (.cells #[.int .i64 1, .int .u32 0, .slice none 0 0, .slice none 0 0] 27) := ⟨_, rfl⟩
  obtain ⟨b4, hb4⟩ : ∃ b, b = w.heap.size := ⟨_, rfl⟩
  obtain ⟨b7, hb7⟩ : ∃ b, b = w.heap.size + 1 := ⟨_, rfl⟩
  have h4 : w2.heap[b4]? = some (.cells #[.int .i64 0, .int .u32 0, .slice none 0 0, .slice none 0 0] 27 (0, 0)) := by rw [hw2, hb4]; exact (Below.heap_alloc _ _ _ (by simp)).trans (heap_alloc_new w _)
  have h7 : w2.heap[b7]? = some (.cells #[.int .i64 1, .int .u32 0, .slice none 0 0, .slice none 0 0] 27 (0, 0)) := by rw [hw2, hb7]; exact heap_alloc_new2 w _ _
  have hbe : RowKit.Below w.heap.size w w2 := by rw [hw2]; exact ((RowKit.Below.refl _ w).alloc (Nat.le_refl _) _).alloc (by simp) _
  have hne : b7 ≠ b4 := by omega
  have Y0 := cell_blk h7 0; have Y1 := cell_blk h7 1; have Y2 := cell_blk h7 2; have Y3 := cell_blk h7 3
  simp only [List.getElem?_toArray, List.getElem?_cons_zero, List.getElem?_cons_succ] at Y0 Y1 Y2 Y3
  have H4 := Lib.hid h4; have H7 := Lib.hid h7; have HB2 := Lib.hid hbe
  have H4B := Lib.hid (show w.heap.size ≤ b4 ∧ w.heap.size ≤ b7 from ⟨by omega, by omega⟩)
  have HW2 := Lib.hid hw2; have HB4 := Lib.hid hb4; have HB7 := Lib.hid hb7
  have HT := Lib.hid hT; have HX := Lib.hid hx
  clear hw2 hb4 hb7 h4 h7 hT hx
  obtain ⟨R, hR⟩ : ∃ R, R = takeK1 xs := ⟨_, rfl⟩
  rw [← hR]
  unfold takeK1 at hR
  have hu := fun W (hb : Below w.heap.size w W) => uvarint_any A c xs W (HX.out.below hb) (by omega)
  have hk := uvS_le' xs
  have hn := uvS_lt' xs
  generalize uvS 0 0 xs = U at hu hk hn hR
  obtain ⟨n, k, er⟩ := U
  simp only at hk hn hR
  have hut : uvT (n, k, er) = .tuple #[.int .u64 (n : Int), .int .i64 (k : Int), .int .i64 (er : Int)] := rfl
  rw [hut] at hu
  have HU := Lib.hid (hu w2 HB2.out)
  clear hu hut hbe
  by_cases he : er = 0
  · subst he
    rw [if_neg (by simp)] at hR
    have hh := fun W => head_one n W hn
    by_cases hb : n = 0 ∨ 4294967295 < n
    · rw [if_pos hb] at hR hh
      have HR := Lib.hid hR; have HH := Lib.hid hh
      clear hR hh hb
      go_enter Tryd.func49, Tryd.ntmps49
      go_wp2_with fail
      rw [← HB7.out, ← HB4.out, ← HW2.out]
      refine HU.out.mono ?_
      rintro e w3 ⟨rfl, rfl⟩
      go_wp2_with fail
      refine (HH.out _).mono ?_
      rintro e w4 ⟨rfl, rfl⟩
      go_wp2_with (first
        | (refine wpList_store_agg (o := ⟨none, _, _, _, _, _⟩) ?_ 27 (.tmp 4) (.tmp 34) ?_ b4 0 [.int .i64 1, .int .u32 0, .slice none 0 0, .slice none 0 0] ?_ ?_ 27 _ H4.out (by kernel_rfl) (by show 0 + 4 ≤ 4; decide) (by intro v hv; simp at hv; rcases hv with rfl | rfl | rfl | rfl <;> rfl) ?_; rfl; rfl; rfl; rfl; intro w9 hg9 hmv9 hs9)
        | fail)
      refine post_rv3 (by rfl) b4 (rvC ⟨1, 0, none, 0, [], none, 0, []⟩) (by rfl) hg9 (by rfl) (by rfl) ?_
      exact ⟨⟨1, 0, none, 0, [], none, 0, []⟩, by rw [HR.out]; rfl, fun h => absurd h (by rw [HR.out]; simp only; omega), HB2.out.trans (hmv9.belowB HB2.out.size (fun i hi e => by have := H4B.out.1; omega))⟩
    · rw [if_neg hb] at hR hh
      have hn32 : n < 4294967296 := by omega
      have htk := fun A2 W (hb : Below w.heap.size w W) hr => take_any A2 (c - k) (xs.length - k) (xs.drop k) W (HT.out.below hb) (by rw [List.length_drop]) hr (by omega) (by omega)
      have hq := (takeP_small (xs.drop k)).2.2
      rw [List.length_drop] at hq
      generalize takeP (xs.drop k) = T at htk hR hq
      obtain ⟨ls, q, e2⟩ := T
      unfold LabsRes at htk
      simp only at htk hR hq
      have HR := Lib.hid hR; have HH := Lib.hid hh; have HTK := Lib.hid htk
      have F1 := free_blk H7.out 1
      have hm3 : Mv (fun i => i = b7) w2 (w2.setCell ⟨b7, 1, none⟩ (.int .u32 (n : Nat))) := Mv.setCell (S := fun i => i = b7) (Mv.refl _ _) (p := ⟨b7, 1, none⟩) (fun _ => rfl) _
      have h73 := set_blk H7.out 1 (.int .u32 (n : Nat))
      simp only [List.setIfInBounds_toArray, List.set_cons_succ, List.set_cons_zero] at h73
      have h43 := keep_mv hm3 H4.out (Ne.symm hne)
      have hb3 : RowKit.Below w.heap.size w (w2.setCell ⟨b7, 1, none⟩ (.int .u32 (n : Nat))) := HB2.out.setCell (p := ⟨b7, 1, none⟩) H4B.out.2 _
      have H73 := Lib.hid h73; have H43 := Lib.hid h43; have HB3 := Lib.hid hb3
      clear hR hh hb htk hm3 h73 h43 hb3
      go_enter Tryd.func49, Tryd.ntmps49
      go_wp2_with fail
      rw [← HB7.out, ← HB4.out, ← HW2.out]
      refine HU.out.mono ?_
      rintro e w3 ⟨rfl, rfl⟩
      go_wp2_with fail
      refine (HH.out _).mono ?_
      rintro e w4 ⟨rfl, rfl⟩
      go_wp2_with (first
        | (refine wpList_slice_any (o := ⟨some 44, _, _, _, _, _⟩) ?_ 30 (.tmp 42) (some (.tmp 43)) none ?_ 5 Tryd.underlying30 (by kernel_rfl) A xs.length c k xs.length ?_ ?_ ?_ hk hc ?_; rfl; rfl; rfl; exact .inl rfl; exact .inr ⟨rfl, rfl⟩; intro A2 hA2 hrd2)
        | fail)
      have hr2 := hrd2 _ (by rw [List.length_map]; exact hc) (HX.out.below HB3.out)
      rw [← List.map_drop] at hr2
      have HR2 := Lib.hid hr2; clear hr2 hrd2 hA2
      refine (HTK.out _ _ HB3.out HR2.out).mono ?_
      rintro e w5 ⟨A5, c5, rfl, hr5, hb5⟩
      have h75 := (hb5.block _ (blk_lt H73.out)).trans H73.out
      have h45 := (hb5.block _ (blk_lt H43.out)).trans H43.out
      have hb5' := HB3.out.trans (hb5.mono HB3.out.size)
      have F2 := free_blk h75 2
      have Z0 := cell_blk h75 0; have Z1 := cell_blk h75 1; have Z2 := cell_blk h75 2; have Z3 := cell_blk h75 3
      simp only [List.getElem?_toArray, List.getElem?_cons_zero, List.getElem?_cons_succ] at Z0 Z1 Z2 Z3
      have hm6 : Mv (fun i => i = b7) w5 (w5.setCell ⟨b7, 2, none⟩ (.slice A5 ls.length c5)) := Mv.setCell (S := fun i => i = b7) (Mv.refl _ _) (p := ⟨b7, 2, none⟩) (fun _ => rfl) _
      have h76 := set_blk h75 2 (.slice A5 ls.length c5)
      simp only [List.setIfInBounds_toArray, List.set_cons_succ, List.set_cons_zero] at h76
      have h46 := keep_mv hm6 h45 (Ne.symm hne)
      have hr6 := lab_mv hm6 hr5 h75 (no_text (fun s h => by cases h) (fun s h => by cases h))
      have hb6 : RowKit.Below w.heap.size w (w5.setCell ⟨b7, 2, none⟩ (.slice A5 ls.length c5)) := hb5'.setCell (p := ⟨b7, 2, none⟩) H4B.out.2 _
      have H76 := Lib.hid h76; have H46 := Lib.hid h46; have HR6 := Lib.hid hr6; have HB6 := Lib.hid hb6
      clear h75 h45 hb5' hb5 hr5 hm6 h76 h46 hr6 hb6 Y0 Y1 Y2 Y3
      go_wp2_with (first
        | (refine wpList_store_agg (o := ⟨none, _, _, _, _, _⟩) ?_ 27 (.tmp 4) (.tmp 61) ?_ b4 0 [.int .i64 1, .int .u32 (n : Nat), .slice A5 ls.length c5, .slice none 0 0] ?_ ?_ 27 _ H46.out (by kernel_rfl) (by show 0 + 4 ≤ 4; decide) (by intro v hv; simp at hv; rcases hv with rfl | rfl | rfl | rfl <;> rfl) ?_; rfl; rfl; rfl; rfl; intro w9 hg9 hmv9 hs9)
        | fail)
      have hr9 := lab_mv hmv9 HR6.out H46.out (no_text (fun s h => by cases h) (fun s h => by cases h))
      refine post_rv3 (by rfl) b4 (rvC ⟨1, n, A5, c5, ls, none, 0, []⟩) (by rfl) hg9 (by rfl) (by rfl) ?_
      exact ⟨⟨1, n, A5, c5, ls, none, 0, []⟩, by rw [HR.out]; simp only; rw [Int.natCast_add]; rfl, fun h => ⟨by rw [HR.out]; rfl, ⟨hr9, Rd.nil _ _⟩⟩, HB6.out.trans (hmv9.belowB HB6.out.size (fun i hi e => by have := H4B.out.1; omega))⟩
  · rw [if_pos he] at hR
    have g0 : ((er : Int) != 0) = true := by rw [bne_iff_ne]; omega
    have g1 : ((er : Int) == 0) = false := by rw [beq_eq_false_iff_ne]; omega
    have HR := Lib.hid hR
    clear hR
    go_enter Tryd.func49, Tryd.ntmps49
    go_wp2_with fail
    rw [← HB7.out, ← HB4.out, ← HW2.out]
    refine HU.out.mono ?_
    rintro e w3 ⟨rfl, rfl⟩
    go_wp2_with (first
      | (refine wpList_store_agg (o := ⟨none, _, _, _, _, _⟩) ?_ 27 (.tmp 4) (.tmp 34) ?_ b4 0 [.int .i64 1, .int .u32 0, .slice none 0 0, .slice none 0 0] ?_ ?_ 27 _ H4.out (by kernel_rfl) (by show 0 + 4 ≤ 4; decide) (by intro v hv; simp at hv; rcases hv with rfl | rfl | rfl | rfl <;> rfl) ?_; rfl; rfl; rfl; rfl; intro w9 hg9 hmv9 hs9)
      | fail)
    refine post_rv3 (by rfl) b4 (rvC ⟨1, 0, none, 0, [], none, 0, []⟩) (by rfl) hg9 (by rfl) (by rfl) ?_
    exact ⟨⟨1, 0, none, 0, [], none, 0, []⟩, by rw [HR.out]; rfl, fun h => absurd h (by rw [HR.out]; simp only; omega), HB2.out.trans (hmv9.belowB HB2.out.size (fun i hi e => by have := H4B.out.1; omega))⟩
theorem tk_two (A : Option Addr) (c len : Nat) (xs : Bs) (w : World) (hT : Tabs w) (hle : xs.length = len) (hx : Rd w A (xs.map Bv)) (hc : len ≤ c) (hl : len ≤ 1000000) :
    Calls Tryd.prog 49 #[.int .i64 2, .slice A len c] w fun e w' => ∃ x : Rv,
      e = .returned (.tuple #[.agg (rvC x), .int .i64 ((takeK2 xs).2.1 : Nat), .int .i64 ((takeK2 xs).2.2 : Nat)]) ∧ ((takeK2 xs).2.2 = 0 → x.p = (takeK2 xs).1 ∧ RvIs w' x) ∧ Below w.heap.size w w' := by
  subst hle
  obtain ⟨w2, hw2⟩ : ∃ w2, w2 = (w.alloc (.cells #[.int .i64 0, .int .u32 0, .slice none 0 0, .slice none 0 0] 27)).alloc (.cells #[.int .i64 2, .int .u32 0, .slice none 0 0, .slice none 0 0] 27) := ⟨_, rfl⟩
  obtain ⟨b4, hb4⟩ : ∃ b, b = w.heap.size := ⟨_, rfl⟩
  obtain ⟨b7, hb7⟩ : ∃ b, b = w.heap.size + 1 := ⟨_, rfl⟩
  have h4 : w2.heap[b4]? = some (.cells #[.int .i64 0, .int .u32 0, .slice none 0 0, .slice none 0 0] 27 (0, 0)) := by rw [hw2, hb4]; exact (Below.heap_alloc _ _ _ (by simp)).trans (heap_alloc_new w _)
  have h7 : w2.heap[b7]? = some (.cells #[.int .i64 2, .int .u32 0, .slice none 0 0, .slice none 0 0] 27 (0, 0)) := by rw [hw2, hb7]; exact heap_alloc_new2 w _ _
  have hbe : RowKit.Below w.heap.size w w2 := by rw [hw2]; exact ((RowKit.Below.refl _ w).alloc (Nat.le_refl _) _).alloc (by simp) _
  have hne : b7 ≠ b4 := by omega
  have Y0 := cell_blk h7 0; have Y1 := cell_blk h7 1; have Y2 := cell_blk h7 2; have Y3 := cell_blk h7 3
  simp only [List.getElem?_toArray, List.getElem?_cons_zero, List.getElem?_cons_succ] at Y0 Y1 Y2 Y3
  have H4 := Lib.hid h4; have H7 := Lib.hid h7; have HB2 := Lib.hid hbe
  have H4B := Lib.hid (show w.heap.size ≤ b4 ∧ w.heap.size ≤ b7 from ⟨by omega, by omega⟩)
  have HW2 := Lib.hid hw2; have HB4 := Lib.hid hb4; have HB7 := Lib.hid hb7
  have HT := Lib.hid hT; have HX := Lib.hid hx
  clear hw2 hb4 hb7 h4 h7 hT hx
  obtain ⟨R, hR⟩ : ∃ R, R = takeK2 xs := ⟨_, rfl⟩
  rw [← hR]
  unfold takeK2 at hR
  have hu := fun W (hb : Below w.heap.size w W) => uvarint_any A c xs W (HX.out.below hb) (by omega)
  have hk := uvS_le' xs
  have hn := uvS_lt' xs
  generalize uvS 0 0 xs = U at hu hk hn hR
  obtain ⟨n, k, er⟩ := U
  simp only at hk hn hR
  have hut : uvT (n, k, er) = .tuple #[.int .u64 (n : Int), .int .i64 (k : Int), .int .i64 (er : Int)] := rfl
  rw [hut] at hu
  have HU := Lib.hid (hu w2 HB2.out)
  clear hu hut hbe
  by_cases he : er = 0
  · subst he
    rw [if_neg (by simp)] at hR
    have hh := fun W => head_two n W hn
    by_cases hb : 256 < n
    · rw [if_pos hb] at hR hh
      have HR := Lib.hid hR; have HH := Lib.hid hh
      clear hR hh
      go_enter Tryd.func49, Tryd.ntmps49
      go_wp2_with fail
      rw [← HB7.out, ← HB4.out, ← HW2.out]
      refine HU.out.mono ?_
      rintro e w3 ⟨rfl, rfl⟩
      go_wp2_with fail
      refine (HH.out _).mono ?_
      rintro e w4 ⟨rfl, rfl⟩
      go_wp2_with (first
        | (refine wpList_store_agg (o := ⟨none, _, _, _, _, _⟩) ?_ 27 (.tmp 4) (.tmp 34) ?_ b4 0 [.int .i64 2, .int .u32 0, .slice none 0 0, .slice none 0 0] ?_ ?_ 27 _ H4.out (by kernel_rfl) (by show 0 + 4 ≤ 4; decide) (by intro v hv; simp at hv; rcases hv with rfl | rfl | rfl | rfl <;> rfl) ?_; rfl; rfl; rfl; rfl; intro w9 hg9 hmv9 hs9)
        | fail)
      refine post_rv3 (by rfl) b4 (rvC ⟨2, 0, none, 0, [], none, 0, []⟩) (by rfl) hg9 (by rfl) (by rfl) ?_
      exact ⟨⟨2, 0, none, 0, [], none, 0, []⟩, by rw [HR.out]; rfl, fun h => absurd h (by rw [HR.out]; simp only; omega), HB2.out.trans (hmv9.belowB HB2.out.size (fun i hi e => by have := H4B.out.1; omega))⟩
    rw [if_neg hb] at hR hh
    by_cases hb0 : n = 0
    · rw [if_pos hb0] at hR hh
      clear hb0
      have HR := Lib.hid hR; have HH := Lib.hid hh
      clear hR hh
      go_enter Tryd.func49, Tryd.ntmps49
      go_wp2_with fail
      rw [← HB7.out, ← HB4.out, ← HW2.out]
      refine HU.out.mono ?_
      rintro e w3 ⟨rfl, rfl⟩
      go_wp2_with fail
      refine (HH.out _).mono ?_
      rintro e w4 ⟨rfl, rfl⟩
      go_wp2_with (first
        | (refine wpList_store_agg (o := ⟨none, _, _, _, _, _⟩) ?_ 27 (.tmp 4) (.tmp 34) ?_ b4 0 [.int .i64 2, .int .u32 0, .slice none 0 0, .slice none 0 0] ?_ ?_ 27 _ H4.out (by kernel_rfl) (by show 0 + 4 ≤ 4; decide) (by intro v hv; simp at hv; rcases hv with rfl | rfl | rfl | rfl <;> rfl) ?_; rfl; rfl; rfl; rfl; intro w9 hg9 hmv9 hs9)
        | fail)
      refine post_rv3 (by rfl) b4 (rvC ⟨2, 0, none, 0, [], none, 0, []⟩) (by rfl) hg9 (by rfl) (by rfl) ?_
      exact ⟨⟨2, 0, none, 0, [], none, 0, []⟩, by rw [HR.out]; rfl, fun h => absurd h (by rw [HR.out]; simp only; omega), HB2.out.trans (hmv9.belowB HB2.out.size (fun i hi e => by have := H4B.out.1; omega))⟩
    · rw [if_neg hb0] at hR hh
      have htk := fun A2 W hr => tp_any A2 (c - k) (xs.length - k) n (xs.drop k) W (by rw [List.length_drop]) hr (by omega) (by omega) (by omega)
      have hq := (ensAt_le n en0 (xs.drop k)).1
      rw [List.length_drop] at hq
      generalize ensAt n en0 (xs.drop k) = T at htk hR hq
      obtain ⟨ls, q, e2⟩ := T
      unfold EnsRes at htk
      simp only at htk hR hq
      have HR := Lib.hid hR; have HH := Lib.hid hh; have HTK := Lib.hid htk
      clear hR hh htk hb0
      go_enter Tryd.func49, Tryd.ntmps49
      go_wp2_with fail
      rw [← HB7.out, ← HB4.out, ← HW2.out]
      refine HU.out.mono ?_
      rintro e w3 ⟨rfl, rfl⟩
      go_wp2_with fail
      refine (HH.out _).mono ?_
      rintro e w4 ⟨rfl, rfl⟩
      go_wp2_with (first
        | (refine wpList_slice_any (o := ⟨some 53, _, _, _, _, _⟩) ?_ 30 (.tmp 51) (some (.tmp 52)) none ?_ 5 Tryd.underlying30 (by kernel_rfl) A xs.length c k xs.length ?_ ?_ ?_ hk hc ?_; rfl; rfl; rfl; exact .inl rfl; exact .inr ⟨rfl, rfl⟩; intro A2 hA2 hrd2)
        | fail)
      have hr2 := hrd2 _ (by rw [List.length_map]; exact hc) (HX.out.below HB2.out)
      rw [← List.map_drop] at hr2
      have HR2 := Lib.hid hr2; clear hr2 hrd2 hA2
      refine (HTK.out _ _ HR2.out).mono ?_
      rintro e w5 ⟨A5, c5, rfl, hr5, hb5, hnew⟩
      have h75 := (hb5.block _ (blk_lt H7.out)).trans H7.out
      have h45 := (hb5.block _ (blk_lt H4.out)).trans H4.out
      have hn7 : A5.map (·.block) ≠ some b7 := fun e => by have := hnew _ e; have := blk_lt H7.out; omega
      have hn4 : A5.map (·.block) ≠ some b4 := fun e => by have := hnew _ e; have := blk_lt H4.out; omega
      have hb5' := HB2.out.trans (hb5.mono HB2.out.size)
      have F2 := free_blk h75 3
      have Z0 := cell_blk h75 0; have Z1 := cell_blk h75 1; have Z2 := cell_blk h75 2; have Z3 := cell_blk h75 3
      simp only [List.getElem?_toArray, List.getElem?_cons_zero, List.getElem?_cons_succ] at Z0 Z1 Z2 Z3
      have hm6 : Mv (fun i => i = b7) w5 (w5.setCell ⟨b7, 3, none⟩ (.slice A5 ls.length c5)) := Mv.setCell (S := fun i => i = b7) (Mv.refl _ _) (p := ⟨b7, 3, none⟩) (fun _ => rfl) _
      have h76 := set_blk h75 3 (.slice A5 ls.length c5)
      simp only [List.setIfInBounds_toArray, List.set_cons_succ, List.set_cons_zero] at h76
      have h46 := keep_mv hm6 h45 (Ne.symm hne)
      have hr6 := rd_mvJ hm6 hr5 hn7
      have hb6 : RowKit.Below w.heap.size w (w5.setCell ⟨b7, 3, none⟩ (.slice A5 ls.length c5)) := hb5'.setCell (p := ⟨b7, 3, none⟩) H4B.out.2 _
      have H76 := Lib.hid h76; have H46 := Lib.hid h46; have HR6 := Lib.hid hr6; have HB6 := Lib.hid hb6; have HN4 := Lib.hid hn4
      clear h75 h45 hb5' hb5 hr5 hm6 h76 h46 hr6 hb6 Y0 Y1 Y2 Y3 hn7 hn4 hnew
      go_wp2_with (first
        | (refine wpList_store_agg (o := ⟨none, _, _, _, _, _⟩) ?_ 27 (.tmp 4) (.tmp 61) ?_ b4 0 [.int .i64 2, .int .u32 0, .slice none 0 0, .slice A5 ls.length c5] ?_ ?_ 27 _ H46.out (by kernel_rfl) (by show 0 + 4 ≤ 4; decide) (by intro v hv; simp at hv; rcases hv with rfl | rfl | rfl | rfl <;> rfl) ?_; rfl; rfl; rfl; rfl; intro w9 hg9 hmv9 hs9)
        | fail)
      have hr9 := rd_mvJ hmv9 HR6.out HN4.out
      refine post_rv3 (by rfl) b4 (rvC ⟨2, 0, none, 0, [], A5, c5, ls⟩) (by rfl) hg9 (by rfl) (by rfl) ?_
      exact ⟨⟨2, 0, none, 0, [], A5, c5, ls⟩, by rw [HR.out]; simp only; rw [Int.natCast_add]; rfl, fun h => ⟨by rw [HR.out]; rfl, ⟨Rd.nil _ _, hr9⟩⟩, HB6.out.trans (hmv9.belowB HB6.out.size (fun i hi e => by have := H4B.out.1; omega))⟩
  · rw [if_pos he] at hR
    have g0 : ((er : Int) != 0) = true := by rw [bne_iff_ne]; omega
    have g1 : ((er : Int) == 0) = false := by rw [beq_eq_false_iff_ne]; omega
    have HR := Lib.hid hR
    clear hR
    go_enter Tryd.func49, Tryd.ntmps49
    go_wp2_with fail
    rw [← HB7.out, ← HB4.out, ← HW2.out]
    refine HU.out.mono ?_
    rintro e w3 ⟨rfl, rfl⟩
    go_wp2_with (first
      | (refine wpList_store_agg (o := ⟨none, _, _, _, _, _⟩) ?_ 27 (.tmp 4) (.tmp 34) ?_ b4 0 [.int .i64 2, .int .u32 0, .slice none 0 0, .slice none 0 0] ?_ ?_ 27 _ H4.out (by kernel_rfl) (by show 0 + 4 ≤ 4; decide) (by intro v hv; simp at hv; rcases hv with rfl | rfl | rfl | rfl <;> rfl) ?_; rfl; rfl; rfl; rfl; intro w9 hg9 hmv9 hs9)
      | fail)
    refine post_rv3 (by rfl) b4 (rvC ⟨2, 0, none, 0, [], none, 0, []⟩) (by rfl) hg9 (by rfl) (by rfl) ?_
    exact ⟨⟨2, 0, none, 0, [], none, 0, []⟩, by rw [HR.out]; rfl, fun h => absurd h (by rw [HR.out]; simp only; omega), HB2.out.trans (hmv9.belowB HB2.out.size (fun i hi e => by have := H4B.out.1; omega))⟩
end
end Go.Proofs.YtgogpngobdafaaaDoor
