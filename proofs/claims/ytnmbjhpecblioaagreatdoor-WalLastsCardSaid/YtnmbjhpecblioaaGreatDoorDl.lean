/-
  The names of a disk's files, rising.
-/
import Derived.Shelf.SlIter.Nil
import Derived.Shelf.SlIter.Sorted
import Derived.Test.YtnmbjhpecblioaaGreatDoorShelfK
import Derived.Test.YtnmbjhpecblioaaGreatDoorShelf
import Derived.Test.YtnmbjhpecblioaaGreatDoorDa
import Derived.Test.YtnmbjhpecblioaaGreatDoorDu
namespace Go.Proofs.YtnmbjhpecblioaaGreatDoor
set_option linter.unusedVariables false
set_option linter.unusedSimpArgs false
open Go.Maps Go.RowKit Go.Sort
theorem keys_dmap (es : List Ent) : strKeys (dmap es) = es.map fun e => bl e.nm := by
  unfold strKeys dmap
  simp only [List.map_map]
  rfl
theorem sort_names {es : List Ent} (hs : SrtE es) {ss : List Bs} (hp : ss.Perm (es.map fun e => bl e.nm)) : (ss.mergeSort fun x y => decide (x ≤ y)) = es.map fun e => bl e.nm := by
  have h1 := List.pairwise_mergeSort (le := fun x y : Bs => decide (x ≤ y)) (fun a b c h1 h2 => by
    simp only [decide_eq_true_eq] at *; exact List.le_trans h1 h2) (fun a b => by simp only [Bool.or_eq_true, decide_eq_true_eq]; exact List.le_total a b) ss
  have h2 : (es.map fun e => bl e.nm).Pairwise (fun x y => decide (x ≤ y) = true) := by
    rw [List.pairwise_map]
    exact hs.imp fun h => decide_eq_true (List.le_of_lt h)
  refine List.Perm.eq_of_pairwise (le := fun x y : Bs => decide (x ≤ y) = true) (fun a b _ _ h1 h2 => ?_) h1 h2 ((List.mergeSort_perm _ _).trans hp)
  simp only [decide_eq_true_eq] at h1 h2
  exact List.le_antisymm h1 h2
theorem sortsK (m : Nat) : AnyZ.SortsIn Tryz.prog Tryz.sortedK_ren Fence.wide m :=
  ⟨fun blk off cap ss W hH hblk hsz => callsIn_wide.2 (Tryz.slices_Sort_string blk off cap ss W hH hblk hsz), fun p cap W => callsIn_wide.2 (Tryz.slices_Sort_string_none p cap W)⟩
theorem keys_any (mb : Option Nat) (W : World) : Calls Tryz.prog 84 #[.map mb] W fun e w' => e = .returned (.func (.func 109) #[] #[.pointer (some ⟨W.heap.size, 0, none⟩)]) ∧ w' = W.alloc (.cells #[.map mb] 70) :=
  callsIn_wide.1 (AnyZ.keys_in Tryz.keysK Fence.wide 5 trivial rfl mb W)
section
set_option maxHeartbeats 2000000
set_option maxRecDepth 100000
theorem sorted_any {w : World} {mb n : Nat} {es : List Ent} (hown : w.ownsMap Tryz.prog 9 ptrE mb n (dmap es)) (hs : SrtE es) (hl : es.length ≤ 1000) :
    Calls Tryz.prog 83 #[.func (.func 109) #[] #[.pointer (some ⟨w.heap.size, 0, none⟩)]] (w.alloc (.cells #[.map (some mb)] 70)) fun e w' => ∃ v, e = .returned v ∧ w'.ownsRow (w.heap.size + 1) 9 1 v es.length (es.map fun e => .string e.nm) ∧ Below (w.heap.size + 1) (w.alloc (.cells #[.map (some mb)] 70)) w' := by
  have hsz : Maps.size (dmap es) = es.length := size_dmap es
  have hseq : SeqGives Fence.wide 2 Tryz.prog 109 #[.pointer (some ⟨w.heap.size, 0, none⟩)] encStr (fun ss => ss.Perm (strKeys (dmap es))) (Maps.size (dmap es)) (w.alloc (.cells #[.map (some mb)] 70)) :=
    AnyZ.keys_gives (ρ := Tryz.keysK_ren) { Tryz.keysK with } Fence.wide _ trivial rfl (by omega) w.heap.size mb n (dmap es) _ (by simp) (by simp) (hown.alloc _)
  have h := callsIn_wide.1 (AnyZ.sorted_in Tryz.sortedK Fence.wide 5 trivial trivial trivial trivial rfl (by omega) (sortsK _) (enters_of Tryz.func108 (by kernel_rfl) rfl) 109 #[.pointer (some ⟨w.heap.size, 0, none⟩)] trivial (enters_of Tryz.func109 (by kernel_rfl) rfl) _ _ (by rw [hsz]; unfold maxLen; omega) (by rw [hsz]; omega) _ hseq)
  refine h.mono fun e w' ⟨v, ss, he, hp, hrow, _, hb⟩ => ⟨v, he, ?_, by rw [World.size_alloc] at hb; exact hb⟩
  rw [keys_dmap] at hp
  rw [sort_names hs hp, List.map_map, hp.length_eq, List.length_map, World.size_alloc] at hrow
  have e : (es.map (encStr ∘ fun e => bl e.nm)) = es.map fun e => Value.string e.nm := by
    apply List.map_congr_left
    intro x _
    show Value.string ⟨(bl x.nm).toArray⟩ = _
    rw [show (⟨(bl x.nm).toArray⟩ : ByteArray) = mkB (bl x.nm) from rfl, mk_bl]
  rw [e] at hrow
  exact hrow
variable {w : World} {db mb room : Nat} {es : List Ent}
theorem dlist_any (h : DiskE w db mb room es) : Calls Tryz.prog 48 #[.pointer (some ⟨db, 0, none⟩)] w fun e w' => ∃ v, e = .returned v ∧ w'.ownsRow w.heap.size 9 1 v es.length (es.map fun e => .string e.nm) ∧ Below w.heap.size w w' := by
  have HM := Lib.hid (made_any h.box)
  have c0 := cell_blk h.box 0; have c1 := cell_blk h.box 1
  simp only [List.getElem?_toArray, List.getElem?_cons_succ, List.getElem?_cons_zero] at c0 c1
  have HS := Lib.hid (sorted_any h.map h.srt (by have := h.fits.2.2; omega))
  clear h
  go_enter Tryz.func48, Tryz.ntmps48
  go_wp2_with (first
    | (go_at_call 51; refine HM.out.mono ?_; rintro e w1 ⟨rfl, rfl⟩)
    | (go_at_call 84; refine (keys_any _ _).mono ?_; rintro e w2 ⟨rfl, rfl⟩)
    | (go_at_call 83; refine HS.out.mono ?_; rintro e w3 ⟨v, rfl, ho, hb⟩)
    | fail)
  go_ret
  exact ⟨v, rfl, ho.lower (by omega), ((Below.refl _ w).alloc (Nat.le_refl _) _).trans (hb.mono (by omega))⟩
end
end Go.Proofs.YtnmbjhpecblioaaGreatDoor
