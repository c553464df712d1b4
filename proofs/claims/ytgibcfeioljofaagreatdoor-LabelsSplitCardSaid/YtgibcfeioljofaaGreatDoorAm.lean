/-
  labels.among: whether a text is one of these; labels.By, labels.Without.
-/
import Derived.Test.YtgibcfeioljofaaGreatDoorBi
import Derived.Test.YtgibcfeioljofaaGreatDoorKe
import Derived.Laws.EntriesVeiled
namespace Go.Proofs.YtgibcfeioljofaaGreatDoor
set_option linter.unusedVariables false
set_option linter.unusedSimpArgs false
open Go.RowKit
section
variable {α : Type} [Inhabited α] (enc : α → Value)
theorem holds_ownT {w : World} {B g n cap : Nat} {e : TypeId} {d : Array α} (h : w.ownsRow B e 1 (.slice (some ⟨g, 0, none⟩) n cap) n (d.toList.map enc)) (hn : d.size = n) : Go.Sort.Holds enc w g 0 d ∧ g < w.heap.size ∧ B ≤ g := by
  rcases h.2 with ⟨h1, _⟩ | ⟨g', cap', cur, e, hB, hg, hnc, hcm, hcs, htk⟩
  · cases h1
  · injection e with e1 e2 e3
    injection e1 with e1
    injection e1 with e1
    subst e1
    refine ⟨fun j hj => ?_, blk_lt hg, hB⟩
    have hr : cur[j]? = some (enc d[j]!) := by
      have h1 : (cur.toList.take (n * 1))[j]? = (d.toList.map enc)[j]? := by rw [htk]
      rw [List.getElem?_take, if_pos (by omega), List.getElem?_map] at h1
      rw [← Array.getElem?_toList, h1]
      simp [hj]
    refine ⟨?_, ?_⟩
    · rw [Nat.zero_add, cell_blk hg j]; exact hr
    · rw [Nat.zero_add]; exact free_blk hg j
theorem sort_worldT {w : World} {g n : Nat} {d d' : Array α} {os : Array Obj} (hH : Go.Sort.Holds enc w g 0 d) (hs : d'.size = d.size) (hg : g < w.heap.size) :
    Rd (Go.Sort.grow (Go.Sort.putRow enc (Go.Sort.ahead w n) g 0 d') os) (some ⟨g, 0, none⟩) (d'.toList.map enc) ∧ Mv (· = g) w (Go.Sort.grow (Go.Sort.putRow enc (Go.Sort.ahead w n) g 0 d') os) := by
  have h1 : Go.Sort.Holds enc (Go.Sort.grow (Go.Sort.putRow enc (Go.Sort.ahead w n) g 0 d') os) g 0 d' :=
    Go.Sort.holds_grow enc _ os g 0 d' (by rw [Go.Sort.size_putRow]; exact hg) (Go.Sort.holds_putRow enc _ g 0 d d' (Go.Sort.holds_ahead enc w n g 0 d hH) hs)
  constructor
  · intro k v hv
    refine ⟨g, 0, rfl, ?_⟩
    have hk : k < d'.size := by have := (List.getElem?_eq_some_iff.1 hv).1; simpa using this
    rw [(h1 k hk).1, ← hv]
    simp [hk]
  · refine ⟨rfl, rfl, rfl, ?_, ?_⟩
    · rw [Go.Sort.size_grow, Go.Sort.size_putRow]
      exact Nat.le_add_right _ _
    · intro k hk hkg
      rw [Go.Sort.heap_grow_old _ os (by rw [Go.Sort.size_putRow]; show k < w.heap.size; omega)]
      show (Go.Sort.mapBlock (Go.Sort.ahead w n) g _).heap[k]? = _
      unfold Go.Sort.mapBlock
      show (w.heap.modify g _)[k]? = w.heap[k]?
      rw [Array.getElem?_modify, if_neg (fun e => hkg e.symm)]
end
theorem sort_facts (ns : List ByteArray) : ∃ ns' : List ByteArray, ((ns.map bl).mergeSort fun x y => decide (x ≤ y)) = ns'.map bl ∧ ns'.length = ns.length ∧ SortT ns' ∧ ∀ t, inP ns' t = inP ns t := by
  refine ⟨((ns.map bl).mergeSort fun x y => decide (x ≤ y)).map mkB, ?_, ?_, ?_, ?_⟩
  · rw [List.map_map]
    conv => lhs; rw [← List.map_id ((ns.map bl).mergeSort fun x y => decide (x ≤ y))]
    apply List.map_congr_left
    intro x _
    exact (bl_mk x).symm
  · simp
  · have hs := List.pairwise_mergeSort (le := fun x y : Bs => decide (x ≤ y)) (fun a b c h1 h2 => by
      rw [decide_eq_true_iff] at *; exact List.le_trans h1 h2) (fun a b => by
      rw [Bool.or_eq_true, decide_eq_true_iff, decide_eq_true_iff]; exact List.le_total a b) (ns.map bl)
    intro i j hi hj hij
    rw [List.length_map] at hi hj
    rw [List.getElem_map, List.getElem_map, bl_mk, bl_mk]
    by_cases e : i = j
    · subst e; exact ltB_irrefl _
    · have := List.pairwise_iff_getElem.1 hs i j hi hj (by omega)
      rw [decide_eq_true_iff] at this
      exact List.not_lt.2 this
  · intro t
    rw [Bool.eq_iff_iff, inP_iff, inP_iff, List.mem_map]
    constructor
    · rintro ⟨a, ha, rfl⟩
      rw [List.mem_mergeSort, List.mem_map] at ha
      obtain ⟨b, hb, rfl⟩ := ha
      rwa [mk_bl]
    · intro h
      exact ⟨bl t, by rw [List.mem_mergeSort]; exact List.mem_map_of_mem h, mk_bl t⟩
theorem enc_cells (ns : List ByteArray) : (ns.map bl).map encStr = tcells ns := by
  unfold tcells
  rw [List.map_map]
  apply List.map_congr_left
  intro x _
  show Value.string (mkB (bl x)) = _
  rw [mk_bl]
section
set_option maxHeartbeats 1600000
set_option maxRecDepth 100000
theorem sortt_any (g cap B : Nat) (ns : List ByteArray) (w : World) (hown : w.ownsRow B 9 1 (.slice (some ⟨g, 0, none⟩) ns.length cap) ns.length (tcells ns)) (hl : ns.length ≤ 1000000) :
    Calls Tryz.prog 69 #[.slice (some ⟨g, 0, none⟩) ns.length cap] w fun e w' => e = .returned (.tuple #[]) ∧ ∃ ns' : List ByteArray, ns'.length = ns.length ∧ SortT ns' ∧ (∀ t, inP ns' t = inP ns t) ∧ Rd w' (some ⟨g, 0, none⟩) (tcells ns') ∧ Mv (· = g) w w' := by
  obtain ⟨ns', e1, e2, e3, e4⟩ := sort_facts ns
  have ho := hown
  rw [← enc_cells ns] at ho
  obtain ⟨hH, hg, _⟩ := holds_ownT encStr (d := (ns.map bl).toArray) (by simpa using ho) (by simp)
  have hS := Tryz.slices_Sort_string g 0 cap (ns.map bl) w hH hg (by rw [List.length_map]; omega)
  rw [List.length_map] at hS
  refine hS.mono ?_
  rintro e w' ⟨rfl, n, os, rfl⟩
  rw [e1]
  obtain ⟨hr, hb⟩ := sort_worldT encStr (n := n) (d' := (ns'.map bl).toArray) (os := os) hH (by simp [e2]) hg
  refine ⟨rfl, ns', e2, e3, e4, ?_, hb⟩
  rw [← enc_cells ns']
  exact hr
theorem am1_tells (a : Nat) (A : Option Addr) (c : Nat) (ns : List ByteArray) (hs : SortT ns) (hl : ns.length ≤ 1000000) :
    TellsT 70 #[.pointer (some ⟨a, 0, none⟩)] (inP ns) (fun W => W.heap[a]? = some (.cells #[.slice A ns.length c] 24 (0, 0)) ∧ Rd W A (tcells ns)) := by
  rintro W t ⟨hc, hr⟩
  have hcall := bs_any A c ns t W hr hs hl
  have hd := cell_blk hc 0
  simp only [List.getElem?_toArray, List.getElem?_cons_zero] at hd
  generalize inP ns t = b at hcall
  have HC := Lib.hid hcall; clear hcall hc
  go_enter Tryz.func70, Tryz.ntmps70
  go_wp2_with fail
  refine HC.out.mono ?_
  rintro e w1 ⟨i, rfl, rfl⟩
  go_wp2
  go_ret
  exact ⟨rfl, Below.refl _ _⟩
/-- What among makes: a function value over a box that holds the texts in order. -/
def AmRes (w : World) (ns : List ByteArray) (e : Ending) (w' : World) : Prop :=
  ∃ (a : Nat) (A' : Option Addr) (c' : Nat) (ns' : List ByteArray), e = .returned (.func (.func 70) #[] #[.pointer (some ⟨a, 0, none⟩)]) ∧ w'.heap[a]? = some (.cells #[.slice A' ns'.length c'] 24 (0, 0)) ∧ Rd w' A' (tcells ns') ∧ SortT ns' ∧ (∀ t, inP ns' t = inP ns t) ∧ ns'.length = ns.length ∧ RowKit.Below w.heap.size w w'
theorem clonet_any (A : Option Addr) (c : Nat) (ns : List ByteArray) (w : World) (hx : Rd w A (tcells ns)) (hl : ns.length ≤ 1000000) :
    Calls Tryz.prog 68 #[.slice A ns.length c] w fun e w' => ∃ v, e = .returned v ∧ w'.ownsRow w.heap.size 9 1 v ns.length (tcells ns) ∧ RowKit.Below w.heap.size w w' := by
  cases A with
  | none =>
    obtain rfl := tx_nil hx
    refine (Tryz.slices_Clone_string_nil 0 c w).mono ?_
    rintro e w' ⟨rfl, rfl⟩
    exact ⟨_, rfl, World.ownsRow_nil _ _ _ _, RowKit.Below.refl _ _⟩
  | some ad =>
    cases ns with
    | nil =>
      refine (Tryz.slices_Clone_string_zero ad c w).mono ?_
      rintro e w' ⟨v, rfl, ho, -, hb⟩
      exact ⟨v, rfl, ho, hb⟩
    | cons x r =>
      obtain ⟨b, off, e1, _⟩ := tx_at hx (k := 0) (by simp)
      injection e1 with e1
      subst e1
      have h := Tryz.slices_Clone_string b off (x :: r).length c (x :: r) w (Nat.le_refl _) (by omega) (fun j hj => by
        obtain ⟨b', o', e', hc⟩ := tx_at hx hj
        injection e' with e'; injection e' with e1 e2 _; subst e1; subst e2
        rw [hc, List.getD_eq_getElem?_getD, List.getElem?_eq_getElem hj]; rfl)
      refine h.mono ?_
      rintro e w' ⟨v, rfl, ho, -, hb⟩
      rw [List.take_length] at ho
      exact ⟨v, rfl, ho, hb⟩
theorem among_any (A : Option Addr) (c : Nat) (ns : List ByteArray) (w : World) (hx : Rd w A (tcells ns)) (hl : ns.length ≤ 1000000) :
    Calls Tryz.prog 35 #[.slice A ns.length c] w (AmRes w ns) := by
  have hmf : ∀ (fn : Fn) (first cap : Array Value) (w : World), (Instr.makeFunc fn first cap).run Tryz.prog w = .ok (.func fn first cap) w := fun _ _ _ _ => rfl
  have hcl := clonet_any A c ns w hx hl
  have HCL := Lib.hid hcl; clear hcl hx
  go_enter Tryz.func35, Tryz.ntmps35
  go_wp2_with fail
  refine HCL.out.mono ?_
  rintro e w1 ⟨v, rfl, ho, hb⟩
  rcases ho.2 with ⟨rfl, h0⟩ | ⟨g, cap, cur, rfl, hBg, hg, hrest⟩
  · obtain rfl : ns = [] := List.eq_nil_of_length_eq_zero h0
    have hbx := heap_alloc_new w1 (.cells #[.slice none 0 0] 24)
    have HBX := Lib.hid hbx; have HB := Lib.hid (hb.alloc hb.size (.cells #[.slice none 0 0] 24)); clear hb ho hbx
    have HSO := Lib.hid (Tryz.slices_Sort_string_none none 0 (w1.alloc (.cells #[.slice none 0 0] 24)))
    go_wp2_with fail
    refine HSO.out.mono ?_
    rintro e w2 ⟨rfl, rfl⟩
    go_wp2
    go_ret
    exact ⟨w1.heap.size, none, 0, [], rfl, HBX.out, Rd.nil _ _, fun i j hi => absurd hi (Nat.not_lt_zero _), fun _ => rfl, rfl, HB.out⟩
  · have hglt := blk_lt hg
    have hbx := heap_alloc_new w1 (.cells #[.slice (some ⟨g, 0, none⟩) ns.length cap] 24)
    have hso := sortt_any g cap w.heap.size ns (w1.alloc (.cells #[.slice (some ⟨g, 0, none⟩) ns.length cap] 24)) (ho.alloc _) hl
    have HBX := Lib.hid hbx; have HB := Lib.hid (hb.alloc hb.size (.cells #[.slice (some ⟨g, 0, none⟩) ns.length cap] 24))
    have HSO := Lib.hid hso; clear hb ho hbx hso hrest hg
    go_wp2_with fail
    refine HSO.out.mono ?_
    rintro e w2 ⟨rfl, ns', f1, f2, f3, f4, f5⟩
    have hbx2 := (f5.block _ (blk_lt HBX.out) (by omega)).trans HBX.out
    have hB2 : RowKit.Below w.heap.size w w2 := HB.out.trans (f5.belowB HB.out.size (fun k hk e => by omega))
    rw [← f1] at hbx2
    have HF := Lib.hid (And.intro hbx2 (And.intro f4 (And.intro f2 (And.intro f3 (And.intro f1 hB2)))))
    clear hbx2 f1 f2 f3 f4 f5 hB2
    go_wp2
    go_ret
    obtain ⟨a1, a2, a3, a4, a5, a6⟩ := HF.out
    exact ⟨w1.heap.size, _, _, ns', rfl, a1, a2, a3, a4, a5, a6⟩
theorem by_any (A B : Option Addr) (ca cb : Nat) (l : List Lb) (ns : List ByteArray) (w : World) (hx : Rd w A (lcells l)) (hn : Rd w B (tcells ns)) (hl : l.length ≤ 1000) (hnl : ns.length ≤ 1000) :
    Calls Tryz.prog 15 #[.slice A l.length ca, .slice B ns.length cb] w fun e w' => ∃ A' c', e = .returned (.slice A' (byP l ns).length c') ∧ w'.ownsRow w.heap.size 26 2 (.slice A' (byP l ns).length c') (byP l ns).length (lcells (byP l ns)) ∧ RowKit.Below w.heap.size w w' := by
  have ham := among_any B cb ns w hn (by omega)
  have HAM := Lib.hid ham; clear ham hn
  have egk : ∀ args w, (callFunc 70 args).run Tryz.prog w = .ok (.enter 70 args) w := enters_of Tryz.func70 (by kernel_rfl) rfl
  have HEG := Lib.hid egk; have HX := Lib.hid hx; clear egk hx
  go_enter Tryz.func15, Tryz.ntmps15
  go_wp2_with fail
  refine HAM.out.mono ?_
  rintro e w1 ⟨a, A', c', ns', rfl, f1, f2, f3, f4, f5, f6⟩
  have hk := kept_any A ca l w1 70 _ (inP ns') HEG.out (fun W t hb => am1_tells a A' c' ns' f3 (by omega) W t ⟨(hb.block _ (blk_lt f1)).trans f1, f2.below hb⟩) (HX.out.below f6) (by omega)
  have he : keepP (inP ns') l = byP l ns := by
    unfold keepP byP
    exact congrArg (fun p => List.filter p l) (funext fun x => f4 x.1)
  rw [he] at hk
  have HK := Lib.hid hk; have HB := Lib.hid f6; clear hk f1 f2 f3 f4 f5 f6 he
  go_wp2_with fail
  refine HK.out.mono ?_
  rintro e w2 ⟨A2, c2, rfl, ho, hb⟩
  have HO := Lib.hid (ho.lower HB.out.size); have HB2 := Lib.hid (HB.out.trans (hb.mono HB.out.size)); clear ho hb
  go_wp2
  go_ret
  exact ⟨A2, c2, rfl, HO.out, HB2.out⟩
theorem wo1_tells (b5 g : Nat) (lb : Array Value) (q : ByteArray → Bool) (S : World → Prop) (eg : ∀ args w, (callFunc g args).run Tryz.prog w = .ok (.enter g args) w) (hq : TellsT g lb q S) :
    TellsT 37 #[.pointer (some ⟨b5, 0, none⟩)] (fun t => !decide (bl t = nameLabel) && !q t) (fun W => W.heap[b5]? = some (.cells #[.func (.func g) #[] lb] 53 (0, 0)) ∧ S W) := by
  rintro W t ⟨hc, hs⟩
  have hcall := hq W t hs
  have hd := cell_blk hc 0
  simp only [List.getElem?_toArray, List.getElem?_cons_zero] at hd
  simp only
  generalize q t = b at hcall
  have HC := Lib.hid hcall; clear hcall hc
  by_cases he : bl t = nameLabel
  · have hq : (t.toList == [95, 95, 110, 97, 109, 101, 95, 95]) = true := by rw [toList_bl, he]; rfl
    rw [decide_eq_true he]
    clear he
    go_enter Tryz.func37, Tryz.ntmps37
    go_wp2
    go_ret
    exact ⟨rfl, Below.refl _ _⟩
  · have hq : (t.toList == [95, 95, 110, 97, 109, 101, 95, 95]) = false := by rw [toList_bl, beq_eq_false_iff_ne]; exact he
    rw [decide_eq_false he]
    clear he
    cases b
    all_goals
      go_enter Tryz.func37, Tryz.ntmps37
      go_wp2_with (first | (go_at_fn g; refine HC.out.mono ?_; rintro e w1 ⟨rfl, hb⟩) | fail)
      go_ret
      exact ⟨rfl, hb⟩
theorem wo_any (A B : Option Addr) (ca cb : Nat) (l : List Lb) (ns : List ByteArray) (w : World) (hx : Rd w A (lcells l)) (hn : Rd w B (tcells ns)) (hl : l.length ≤ 1000) (hnl : ns.length ≤ 1000) :
    Calls Tryz.prog 17 #[.slice A l.length ca, .slice B ns.length cb] w fun e w' => ∃ A' c', e = .returned (.slice A' (woP l ns).length c') ∧ w'.ownsRow w.heap.size 26 2 (.slice A' (woP l ns).length c') (woP l ns).length (lcells (woP l ns)) ∧ RowKit.Below w.heap.size w w' := by
  have hmf : ∀ (fn : Fn) (first cap : Array Value) (w : World), (Instr.makeFunc fn first cap).run Tryz.prog w = .ok (.func fn first cap) w := fun _ _ _ _ => rfl
  have ham := among_any B cb ns w hn (by omega)
  have HAM := Lib.hid ham; clear ham hn
  have egk : ∀ args w, (callFunc 70 args).run Tryz.prog w = .ok (.enter 70 args) w := enters_of Tryz.func70 (by kernel_rfl) rfl
  have egw : ∀ args w, (callFunc 37 args).run Tryz.prog w = .ok (.enter 37 args) w := enters_of Tryz.func37 (by kernel_rfl) rfl
  have HEG := Lib.hid egk; have HEW := Lib.hid egw; have HX := Lib.hid hx; clear egk egw hx
  go_enter Tryz.func17, Tryz.ntmps17
  go_wp2_with fail
  refine HAM.out.mono ?_
  rintro e w1 ⟨a, A', c', ns', rfl, f1, f2, f3, f4, f5, f6⟩
  have hb1 : RowKit.Below w1.heap.size w1 (w1.alloc (.cells #[.func (.func 70) #[] #[.pointer (some ⟨a, 0, none⟩)]] 53)) := (RowKit.Below.refl _ w1).alloc (Nat.le_refl _) _
  have hbx := heap_alloc_new w1 (.cells #[.func (.func 70) #[] #[.pointer (some ⟨a, 0, none⟩)]] 53)
  have hB1 := f6.trans (hb1.mono f6.size)
  have f1' := (hb1.block _ (blk_lt f1)).trans f1
  have f2' := f2.below hb1
  have hk := kept_any A ca l (w1.alloc (.cells #[.func (.func 70) #[] #[.pointer (some ⟨a, 0, none⟩)]] 53)) 37 #[.pointer (some ⟨w1.heap.size, 0, none⟩)] (fun t => !decide (bl t = nameLabel) && !inP ns' t) HEW.out
    (fun W t hb => wo1_tells w1.heap.size 70 _ (inP ns') _ HEG.out (am1_tells a A' c' ns' f3 (by omega)) W t ⟨(hb.block _ (blk_lt hbx)).trans hbx, (hb.block _ (blk_lt f1')).trans f1', f2'.below hb⟩) (HX.out.below hB1) (by omega)
  have he : keepP (fun t => !decide (bl t = nameLabel) && !inP ns' t) l = woP l ns := by
    unfold keepP woP
    exact congrArg (fun p => List.filter p l) (funext fun x => by show (!decide (bl x.1 = nameLabel) && !inP ns' x.1) = _; rw [f4 x.1]; rfl)
  rw [he] at hk
  have HK := Lib.hid hk; have HB := Lib.hid hB1; clear hk f1 f2 f3 f4 f5 f6 he f1' f2' hbx hb1 hB1
  go_wp2_with fail
  refine HK.out.mono ?_
  rintro e w2 ⟨A2, c2, rfl, ho, hb⟩
  have HO := Lib.hid (ho.lower HB.out.size); have HB2 := Lib.hid (HB.out.trans (hb.mono HB.out.size)); clear ho hb
  go_wp2
  go_ret
  exact ⟨A2, c2, rfl, HO.out, HB2.out⟩
end
end Go.Proofs.YtgibcfeioljofaaGreatDoor
