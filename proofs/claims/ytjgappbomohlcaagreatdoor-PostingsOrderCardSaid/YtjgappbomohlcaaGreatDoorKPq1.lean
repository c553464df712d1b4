/-
  An index: whether a call made it; a new one; how many series; the labels of a number.
-/
import Derived.Lib.SliceRun
import Derived.Test.YtjgappbomohlcaaGreatDoorKPe
namespace Go.Proofs.YtjgappbomohlcaaGreatDoor
section
set_option linter.unusedVariables false
set_option linter.unusedSimpArgs false
open Go.RowKit
theorem zeroLs (w : World) : (zeroValue 25).run Tryz.prog w = .ok (.slice none 0 0) w := by kernel_rfl
theorem zeroUs (w : World) : (zeroValue 49).run Tryz.prog w = .ok (.slice none 0 0) w := by kernel_rfl
theorem zeroU (w : World) : (zeroValue 23).run Tryz.prog w = .ok (.int .u64 0) w := by kernel_rfl
theorem zeroVm (w : World) : (zeroValue 96).run Tryz.prog w = .ok (.map none) w := by kernel_rfl
section
variable {w : World} {xb : Nat} {L : List Ser} {F : Fp} {G : Gh}
theorem IxF.look_ser (h : IxF w xb L F G) {n : Nat} (hn : n < 18446744073709551616) (c : Bool) :
    (Instr.lookup 71 (.map (some G.sb)) (.int .u64 (n : Nat)) c).run Tryz.prog w = .ok (if c then .tuple #[((labAt L n).map fun _ => G.ls n).getD (.slice none 0 0), .bool (labAt L n).isSome] else ((labAt L n).map fun _ => G.ls n).getD (.slice none 0 0)) w := by
  have := h.sm.look (t := 71) Tryz.underlying71 (zeroLs w) rfl (a := n) hn c
  rw [h.sl, Option.isSome_map] at this
  exact this
theorem IxF.look_ref (h : IxF w xb L F G) {s : ByteArray} (hs : s.size ≤ maxLen) (c : Bool) :
    (Instr.lookup 72 (.map (some G.rb)) (.string s) c).run Tryz.prog w = .ok (if c then .tuple #[((refK L s).map Un).getD (.int .u64 0), .bool (refK L s).isSome] else ((refK L s).map Un).getD (.int .u64 0)) w := by
  have := h.rm.look (t := 72) Tryz.underlying72 (zeroU w) rfl (a := s) hs c
  rw [h.rl, Option.isSome_map] at this
  exact this
theorem IxF.look_name (h : PostE w G F) {s : ByteArray} (hs : s.size ≤ maxLen) (c : Bool) :
    (Instr.lookup 73 (.map (some G.pb)) (.string s) c).run Tryz.prog w = .ok (if c then .tuple #[((F s).map fun _ => Value.map (some (G.mb s))).getD (.map none), .bool (F s).isSome] else ((F s).map fun _ => Value.map (some (G.mb s))).getD (.map none)) w := by
  have := h.pm.look (t := 73) Tryz.underlying73 (zeroVm w) rfl (a := s) hs c
  rw [h.pl, Option.isSome_map] at this
  exact this
theorem IxF.look_val (h : PostE w G F) {s v : ByteArray} {g : ByteArray → Option (List Nat)} (hg : F s = some g) (hv : v.size ≤ maxLen) (c : Bool) :
    (Instr.lookup 96 (.map (some (G.mb s))) (.string v) c).run Tryz.prog w = .ok (if c then .tuple #[((g v).map fun _ => G.sl s v).getD (.slice none 0 0), .bool (g v).isSome] else ((g v).map fun _ => G.sl s v).getD (.slice none 0 0)) w := by
  obtain ⟨h1, _, h3⟩ := h.im s g hg
  have := h1.look (t := 96) Tryz.underlying96 (zeroUs w) rfl (a := v) hv c
  rw [h3, Option.isSome_map] at this
  exact this
end
section
set_option maxHeartbeats 3200000
set_option maxRecDepth 100000
theorem neq_smap (b : Nat) (w : World) : (binOp .neq 71 (.map (some b)) (.map none)).run Tryz.prog w = .ok (.bool true) w := by first | rfl | kernel_rfl
theorem eql_vmap_nil (w : World) : (binOp .eql 96 (.map none) (.map none)).run Tryz.prog w = .ok (.bool true) w := by first | rfl | kernel_rfl
theorem eql_vmap (b : Nat) (w : World) : (binOp .eql 96 (.map (some b)) (.map none)).run Tryz.prog w = .ok (.bool false) w := by first | rfl | kernel_rfl
theorem imade_any {w : World} {xb sb : Nat} {p q : Option Nat} (h : w.heap[xb]? = some (.cells #[.map (some sb), .map p, .map q] 75 (0, 0))) : Calls Tryz.prog 47 #[.pointer (some ⟨xb, 0, none⟩)] w fun e w' => e = .returned (.bool true) ∧ w = w' := by
  have c0 := cell_blk h 0
  simp only [List.getElem?_toArray, List.getElem?_cons_succ, List.getElem?_cons_zero] at c0
  have hn := neq_smap sb
  go_enter Tryz.func47, Tryz.ntmps47
  go_wp2
  go_ret
  exact ⟨rfl, rfl⟩
theorem restF_nil : restF [] = fun _ => none := by
  funext n
  unfold restF
  rw [if_neg (by simp [hasL])]
def newG (N : Nat) : Gh := ⟨fun k => if k = N then .ser else if k = N + 1 then .ref else if k = N + 1 + 1 then .post else if k = N + 1 + 1 + 1 then .box else .no, N, N + 1, N + 1 + 1, [], [], [], fun _ => [], fun _ => 0, fun _ _ => .slice none 0 0, fun _ => .slice none 0 0⟩
theorem ixE_new (w : World) : IxE ((((w.alloc (.map #[] 0)).alloc (.map #[] 0)).alloc (.map #[] 0)).alloc (.cells #[.map (some w.heap.size), .map (some (w.heap.size + 1)), .map (some (w.heap.size + 1 + 1))] 75)) (w.heap.size + 1 + 1 + 1) [] (newG w.heap.size) := by
  have b1 : ∀ o : Obj, (w.alloc o).heap.size = w.heap.size + 1 := fun o => World.size_alloc w o
  have h1 := heap_alloc_new w (.map #[] 0)
  have h2 := heap_alloc_new (w.alloc (.map #[] 0)) (.map #[] 0)
  rw [b1] at h2
  have h3 := heap_alloc_new ((w.alloc (.map #[] 0)).alloc (.map #[] 0)) (.map #[] 0)
  rw [World.size_alloc, b1] at h3
  have h4 := heap_alloc_new (((w.alloc (.map #[] 0)).alloc (.map #[] 0)).alloc (.map #[] 0)) (.cells #[.map (some w.heap.size), .map (some (w.heap.size + 1)), .map (some (w.heap.size + 1 + 1))] 75)
  rw [World.size_alloc, World.size_alloc, b1] at h4
  have k1 := (Below.heap_alloc (((w.alloc (.map #[] 0)).alloc (.map #[] 0)).alloc (.map #[] 0)) (.cells #[.map (some w.heap.size), .map (some (w.heap.size + 1)), .map (some (w.heap.size + 1 + 1))] 75) w.heap.size (by simp <;> omega)).trans ((Below.heap_alloc ((w.alloc (.map #[] 0)).alloc (.map #[] 0)) (.map #[] 0) w.heap.size (by simp <;> omega)).trans ((Below.heap_alloc (w.alloc (.map #[] 0)) (.map #[] 0) w.heap.size (by simp)).trans h1))
  have k2 := (Below.heap_alloc (((w.alloc (.map #[] 0)).alloc (.map #[] 0)).alloc (.map #[] 0)) (.cells #[.map (some w.heap.size), .map (some (w.heap.size + 1)), .map (some (w.heap.size + 1 + 1))] 75) (w.heap.size + 1) (by simp <;> omega)).trans ((Below.heap_alloc ((w.alloc (.map #[] 0)).alloc (.map #[] 0)) (.map #[] 0) (w.heap.size + 1) (by simp)).trans h2)
  have k3 := (Below.heap_alloc (((w.alloc (.map #[] 0)).alloc (.map #[] 0)).alloc (.map #[] 0)) (.cells #[.map (some w.heap.size), .map (some (w.heap.size + 1)), .map (some (w.heap.size + 1 + 1))] 75) (w.heap.size + 1 + 1) (by simp)).trans h3
  have t1 : (newG w.heap.size).tg w.heap.size = .ser := by simp only [newG]; simp
  have t2 : (newG w.heap.size).tg (w.heap.size + 1) = .ref := by simp only [newG]; rw [if_neg (by omega)]; simp
  have t3 : (newG w.heap.size).tg (w.heap.size + 1 + 1) = .post := by simp only [newG]; rw [if_neg (by omega), if_neg (by omega)]; simp
  have t4 : (newG w.heap.size).tg (w.heap.size + 1 + 1 + 1) = .box := by simp only [newG]; rw [if_neg (by omega), if_neg (by omega), if_neg (by omega)]; simp
  refine ⟨h4, t4, mapG_new KU isSlice k1, t1, fun n => rfl, fun s hs => (by cases hs), mapG_new KT isNum k2, t2, fun key => rfl, ⟨mapG_new KT isMap k3, t3, (fun n => by rw [restF_nil]; rfl), (fun n g hg => by rw [restF_nil] at hg; cases hg), (fun n g v l hg => by rw [restF_nil] at hg; cases hg)⟩, Wf.nil, fun k hk => ?_⟩
  have : k ≤ w.heap.size + 1 + 1 + 1 := by
    by_cases h : k ≤ w.heap.size + 1 + 1 + 1
    · exact h
    · exact absurd (by simp only [newG]; rw [if_neg (by omega), if_neg (by omega), if_neg (by omega), if_neg (by omega)]) hk
  simp; omega
theorem inew_any (w : World) : Calls Tryz.prog 14 #[] w fun e w' => ∃ xb G, e = .returned (.pointer (some ⟨xb, 0, none⟩)) ∧ IxE w' xb [] G ∧ Below w.heap.size w w' ∧ ∀ k, G.tg k ≠ .no → w.heap.size ≤ k := by
  have hmm := @run_makeMap Tryz.prog
  have HX := Lib.hid (ixE_new w)
  have HB := Lib.hid (((((RowKit.Below.refl _ w).alloc (Nat.le_refl _) (.map #[] 0)).alloc (by simp) (.map #[] 0)).alloc (by simp <;> omega) (.map #[] 0)).alloc (by simp <;> omega) (.cells #[.map (some w.heap.size), .map (some (w.heap.size + 1)), .map (some (w.heap.size + 1 + 1))] 75) : RowKit.Below w.heap.size w _)
  go_enter Tryz.func14, Tryz.ntmps14
  go_wp2
  go_ret
  refine ⟨w.heap.size + 1 + 1 + 1, newG w.heap.size, rfl, HX.out, HB.out, fun k hk => ?_⟩
  by_cases h : w.heap.size ≤ k
  · exact h
  · exact absurd (by simp only [newG]; rw [if_neg (by omega), if_neg (by omega), if_neg (by omega), if_neg (by omega)]) hk
theorem ilen_any {w : World} {xb : Nat} {L : List Ser} {F : Fp} {G : Gh} (h : IxF w xb L F G) : Calls Tryz.prog 16 #[.pointer (some ⟨xb, 0, none⟩)] w fun e w' => e = .returned (.int .i64 (L.length : Nat)) ∧ w = w' := by
  have c0 := cell_blk h.box 0
  simp only [List.getElem?_toArray, List.getElem?_cons_succ, List.getElem?_cons_zero] at c0
  have HM := Lib.hid (imade_any h.box)
  have hl := fun ty => h.sm.len (t := 71) Tryz.underlying71 ty
  rw [h.slen] at hl
  clear h
  go_enter Tryz.func16, Tryz.ntmps16
  go_wp2_with (first
    | (go_at_call 47; refine HM.out.mono ?_; rintro e w1 ⟨rfl, rfl⟩)
    | fail)
  go_ret
  exact ⟨rfl, rfl⟩
theorem lclone_any (A : Option Addr) (c : Nat) (l : List Lb) (w : World) (hx : Rd w A (lcells l)) (hl : l.length ≤ 1000000) :
    Calls Tryz.prog 48 #[.slice A l.length c] w fun e w' => ∃ A' c', e = .returned (.slice A' l.length c') ∧ w'.ownsRow w.heap.size 80 2 (.slice A' l.length c') l.length (lcells l) ∧ Below w.heap.size w w' := by
  obtain ⟨i0, hi, hz0, hz1, hz2⟩ := info_parts infoLb
  cases A with
  | none =>
    obtain rfl := lb_nil hx
    have heq := fun (W : World) => Go.Lib.run_eql_slice_nil (P := Tryz.prog) W 25 80 none 0 c 0 0 Tryz.underlying25
    simp only [Option.isNone_none, Option.isNone_some] at heq
    go_enter Tryz.func48, Tryz.ntmps48
    go_wp2
    go_ret
    exact ⟨none, 0, rfl, World.ownsRow_nil _ _ _ _, Below.refl _ _⟩
  | some ad =>
    have hown : (w.alloc (.cells #[] 80)).ownsRow w.heap.size 80 2 (.slice (some ⟨w.heap.size, 0, none⟩) 0 0) 0 [] := own_whole (l := []) (Nat.le_refl _) (by decide) (heap_alloc_new w _)
    have hbw : RowKit.Below w.heap.size w (w.alloc (.cells #[] 80)) := (RowKit.Below.refl _ w).alloc (Nat.le_refl _) _
    have HBW := Lib.hid hbw; clear hbw
    have hx1 := hx.alloc (.cells #[] 80)
    have HX := Lib.hid hx1; clear hx hx1
    have HO := Lib.hid hown; clear hown
    have heq := fun (W : World) => Go.Lib.run_eql_slice_nil (P := Tryz.prog) W 25 80 (some ad) l.length c 0 0 Tryz.underlying25
    simp only [Option.isNone_none, Option.isNone_some] at heq
    go_enter Tryz.func48, Tryz.ntmps48
    go_wp2_with (first
      | (at_builtin; go_must (refine wpList_append_own _ rfl _ _ 25 rfl w.heap.size 80 i0 (.agg #[.string ⟨#[]⟩, .string ⟨#[]⟩]) 2 32 Tryz.underlying25 hi hz0 hz1 hz2 rfl (by decide) _ 0 [] rfl HO.out ad l.length c (lcells l) rfl (lcells_len l) (rd_cells HX.out) (lcells_one' l) (by unfold maxLen; omega) (by omega) (by simp) ?_; intro v3 w3 own3 grow3 _))
      | fail)
    have hb3 : RowKit.Below w.heap.size w w3 := HBW.out.grown grow3 (by simp) (fun k h => (HO.out.lt k h).1)
    rw [Nat.zero_add, List.nil_append] at own3
    have HB3 := Lib.hid hb3; clear hb3 grow3
    have HO3 := Lib.hid own3; clear own3
    go_wp2
    go_ret
    obtain ⟨A', c', e, -⟩ := own_rdL HO3.out
    subst e
    exact ⟨A', c', rfl, HO3.out, HB3.out⟩
theorem ilabels_any {w : World} {xb : Nat} {L : List Ser} {F : Fp} {G : Gh} (h : IxF w xb L F G) {n : Nat} (hn : n < 18446744073709551616) : Calls Tryz.prog 17 #[.pointer (some ⟨xb, 0, none⟩), .int .u64 (n : Nat)] w fun e w' =>
    ∃ A c l, l = (labAt L n).getD [] ∧ e = .returned (.tuple #[.slice A l.length c, .bool (labAt L n).isSome]) ∧ w'.ownsRow w.heap.size 80 2 (.slice A l.length c) l.length (lcells l) ∧ Below w.heap.size w w' := by
  have c0 := cell_blk h.box 0
  simp only [List.getElem?_toArray, List.getElem?_cons_succ, List.getElem?_cons_zero] at c0
  have HM := Lib.hid (imade_any h.box)
  have hl := h.look_ser hn true
  rw [if_pos rfl] at hl
  cases hla : labAt L n with
  | none =>
    rw [hla] at hl
    simp only [Option.map_none, Option.getD_none, Option.isSome_none] at hl
    have HC := Lib.hid (lclone_any none 0 [] w (Rd.nil _ _) (by simp))
    clear h hla
    go_enter Tryz.func17, Tryz.ntmps17
    go_wp2_with (first
      | (go_at_call 47; refine HM.out.mono ?_; rintro e w1 ⟨rfl, rfl⟩)
      | (go_at_call 48; refine HC.out.mono ?_; rintro e w2 ⟨A', c', rfl, ho, hb⟩; have HO := Lib.hid ho; have HB := Lib.hid hb; clear ho hb)
      | fail)
    go_ret2
    exact ⟨A', c', [], rfl, rfl, HO.out, HB.out⟩
  | some l =>
    rw [hla] at hl
    simp only [Option.map_some, Option.getD_some, Option.isSome_some] at hl
    have hmem := labAt_some hla
    obtain ⟨ho, -⟩ := h.la _ hmem
    simp only at ho
    obtain ⟨A, c, hv, hr⟩ := own_rdL ho
    rw [hv] at hl
    have hfew := (right_parts (h.wf.right _ hmem)).1
    simp only at hfew
    have HC := Lib.hid (lclone_any A c l w hr (by omega))
    clear h hla ho hv hr
    go_enter Tryz.func17, Tryz.ntmps17
    go_wp2_with (first
      | (go_at_call 47; refine HM.out.mono ?_; rintro e w1 ⟨rfl, rfl⟩)
      | (go_at_call 48; refine HC.out.mono ?_; rintro e w2 ⟨A', c', rfl, ho, hb⟩; have HO := Lib.hid ho; have HB := Lib.hid hb; clear ho hb)
      | fail)
    go_ret2
    exact ⟨A', c', l, rfl, rfl, HO.out, HB.out⟩
end
end
end Go.Proofs.YtjgappbomohlcaaGreatDoor
