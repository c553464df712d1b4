/-
  An index: the names and the values that series have, rising.
-/
import Derived.Shelf.SlIter.Nil
import Derived.Shelf.SlIter.Sorted
import Derived.Test.YtjgappbomohlcaaGreatDoorShelfK
import Derived.Test.YtjgappbomohlcaaGreatDoorShelf
import Derived.Test.YtjgappbomohlcaaGreatDoorK03
import Derived.Test.YtjgappbomohlcaaGreatDoorK01
import Derived.Test.YtjgappbomohlcaaGreatDoorKPq2
namespace Go.Proofs.YtjgappbomohlcaaGreatDoor
section
set_option linter.unusedVariables false
set_option linter.unusedSimpArgs false
open Go.Maps Go.RowKit Go.Sort
theorem sortsK10 (m : Nat) : AnyZ.SortsIn Tryz.prog Tryz.sortedK_ren Fence.wide m :=
  ⟨fun blk off cap ss W hH hblk hsz => callsIn_wide.2 (Tryz.slices_Sort_string blk off cap ss W hH hblk hsz), fun p cap W => callsIn_wide.2 (Tryz.slices_Sort_string_none p cap W)⟩
theorem keysN_any (mb : Option Nat) (W : World) : Calls Tryz.prog 56 #[.map mb] W fun e w' => e = .returned (.func (.func 82) #[] #[.pointer (some ⟨W.heap.size, 0, none⟩)]) ∧ w' = W.alloc (.cells #[.map mb] 73) :=
  callsIn_wide.1 (AnyZ.keys_in Tryz.keysN Fence.wide 5 trivial rfl mb W)
theorem keysV_any (mb : Option Nat) (W : World) : Calls Tryz.prog 58 #[.map mb] W fun e w' => e = .returned (.func (.func 83) #[] #[.pointer (some ⟨W.heap.size, 0, none⟩)]) ∧ w' = W.alloc (.cells #[.map mb] 96) :=
  callsIn_wide.1 (AnyZ.keys_in Tryz.keysV Fence.wide 5 trivial rfl mb W)
theorem strKeys_map (es : List (ByteArray × Value)) : strKeys (KT.map es) = (es.map (·.1)).map bl := by
  unfold strKeys KeyK.map
  simp only [List.map_map]
  rfl
theorem enc_texts (l : List ByteArray) : (l.map bl).map encStr = tcells l := by
  unfold tcells
  rw [List.map_map]
  apply List.map_congr_left
  intro x _
  show Value.string ⟨(bl x).toArray⟩ = _
  rw [show (⟨(bl x).toArray⟩ : ByteArray) = mkB (bl x) from rfl, mk_bl]
section
set_option maxHeartbeats 2000000
set_option maxRecDepth 100000
theorem sortedN_any {w : World} {mb : Nat} {S : Value → Bool} {es : List (ByteArray × Value)} (h : MapG KT S w mb es) (hl : es.length ≤ 100000) :
    Calls Tryz.prog 55 #[.func (.func 82) #[] #[.pointer (some ⟨w.heap.size, 0, none⟩)]] (w.alloc (.cells #[.map (some mb)] 73)) fun e w' => ∃ v, e = .returned v ∧ w'.ownsRow (w.heap.size + 1) 9 1 v (riseT (es.map (·.1))).length (tcells (riseT (es.map (·.1)))) ∧ Below (w.heap.size + 1) (w.alloc (.cells #[.map (some mb)] 73)) w' := by
  have hsz : Maps.size (KT.map es) = es.length := KT.size_map es
  have hseq : SeqGives Fence.wide 2 Tryz.prog 82 #[.pointer (some ⟨w.heap.size, 0, none⟩)] encStr (fun ss => ss.Perm (strKeys (KT.map es))) (Maps.size (KT.map es)) (w.alloc (.cells #[.map (some mb)] 73)) :=
    AnyZ.keys_gives (ρ := Tryz.keysN_ren) { Tryz.keysN with } Fence.wide _ trivial rfl (by omega) w.heap.size mb es.length (KT.map es) _ (by simp) (by simp) (h.own.alloc _)
  have h := callsIn_wide.1 (AnyZ.sorted_in Tryz.sortedK Fence.wide 5 trivial trivial trivial trivial rfl (by omega) (sortsK10 _) (enters_of Tryz.func81 (by kernel_rfl) rfl) 82 #[.pointer (some ⟨w.heap.size, 0, none⟩)] trivial (enters_of Tryz.func82 (by kernel_rfl) rfl) _ _ (by rw [hsz]; unfold maxLen; omega) (by rw [hsz]; omega) _ hseq)
  rename_i hm
  refine h.mono fun e w' ⟨v, ss, he, hp, hrow, _, hb⟩ => ⟨v, he, ?_, by rw [World.size_alloc] at hb; exact hb⟩
  rw [strKeys_map] at hp
  have hle : ss.length = (riseT (es.map (·.1))).length := by
    have hpr : (riseT (es.map (·.1))).Perm (es.map (·.1)) := (List.perm_ext_iff_of_nodup (risT_nodup (riseT_ris _)) hm.nd).2 fun _ => riseT_mem
    rw [hp.length_eq, List.length_map, hpr.length_eq]
  rw [sort_ris hm.nd hp, enc_texts, hle, World.size_alloc] at hrow
  exact hrow
theorem sortedV_any {w : World} {mb : Nat} {S : Value → Bool} {es : List (ByteArray × Value)} (h : MapG KT S w mb es) (hl : es.length ≤ 100000) :
    Calls Tryz.prog 55 #[.func (.func 83) #[] #[.pointer (some ⟨w.heap.size, 0, none⟩)]] (w.alloc (.cells #[.map (some mb)] 96)) fun e w' => ∃ v, e = .returned v ∧ w'.ownsRow (w.heap.size + 1) 9 1 v (riseT (es.map (·.1))).length (tcells (riseT (es.map (·.1)))) ∧ Below (w.heap.size + 1) (w.alloc (.cells #[.map (some mb)] 96)) w' := by
  have hsz : Maps.size (KT.map es) = es.length := KT.size_map es
  have hseq : SeqGives Fence.wide 2 Tryz.prog 83 #[.pointer (some ⟨w.heap.size, 0, none⟩)] encStr (fun ss => ss.Perm (strKeys (KT.map es))) (Maps.size (KT.map es)) (w.alloc (.cells #[.map (some mb)] 96)) :=
    AnyZ.keys_gives (ρ := Tryz.keysV_ren) { Tryz.keysV with } Fence.wide _ trivial rfl (by omega) w.heap.size mb es.length (KT.map es) _ (by simp) (by simp) (h.own.alloc _)
  have h := callsIn_wide.1 (AnyZ.sorted_in Tryz.sortedK Fence.wide 5 trivial trivial trivial trivial rfl (by omega) (sortsK10 _) (enters_of Tryz.func81 (by kernel_rfl) rfl) 83 #[.pointer (some ⟨w.heap.size, 0, none⟩)] trivial (enters_of Tryz.func83 (by kernel_rfl) rfl) _ _ (by rw [hsz]; unfold maxLen; omega) (by rw [hsz]; omega) _ hseq)
  rename_i hm
  refine h.mono fun e w' ⟨v, ss, he, hp, hrow, _, hb⟩ => ⟨v, he, ?_, by rw [World.size_alloc] at hb; exact hb⟩
  rw [strKeys_map] at hp
  have hle : ss.length = (riseT (es.map (·.1))).length := by
    have hpr : (riseT (es.map (·.1))).Perm (es.map (·.1)) := (List.perm_ext_iff_of_nodup (risT_nodup (riseT_ris _)) hm.nd).2 fun _ => riseT_mem
    rw [hp.length_eq, List.length_map, hpr.length_eq]
  rw [sort_ris hm.nd hp, enc_texts, hle, World.size_alloc] at hrow
  exact hrow
theorem sorted_nilV (w : World) :
    Calls Tryz.prog 55 #[.func (.func 83) #[] #[.pointer (some ⟨w.heap.size, 0, none⟩)]] (w.alloc (.cells #[.map none] 96)) fun e w' => ∃ v, e = .returned v ∧ w'.ownsRow (w.heap.size + 1) 9 1 v 0 [] ∧ Below (w.heap.size + 1) (w.alloc (.cells #[.map none] 96)) w' := by
  have hseq := AnyZ.keys_gives_nil (ρ := Tryz.keysV_ren) { Tryz.keysV with } Fence.wide 2 trivial rfl w.heap.size (w.alloc (.cells #[.map none] 96)) (by simp) (by simp)
  have h := callsIn_wide.1 (AnyZ.sorted_in Tryz.sortedK Fence.wide 5 trivial trivial trivial trivial rfl (by omega) (sortsK10 _) (enters_of Tryz.func81 (by kernel_rfl) rfl) 83 #[.pointer (some ⟨w.heap.size, 0, none⟩)] trivial (enters_of Tryz.func83 (by kernel_rfl) rfl) _ _ (by unfold maxLen; omega) (by omega) _ hseq)
  refine h.mono fun e w' ⟨v, ss, he, hp, hrow, _, hb⟩ => ⟨v, he, ?_, by rw [World.size_alloc] at hb; exact hb⟩
  subst hp
  rw [World.size_alloc, List.mergeSort_nil] at hrow
  exact hrow
theorem key_iff {es : List (ByteArray × Value)} {n : ByteArray} : n ∈ es.map (·.1) ↔ lkG es n ≠ none := by
  rw [ne_eq, lk_none, Classical.not_not]
theorem pE_names {w : World} {xb : Nat} {L : List Ser} {G : Gh} (h : IxE w xb L G) : riseT (G.pE.map (·.1)) = namesL L := by
  refine riseT_congr fun n => ?_
  rw [key_iff, h.po.pl, ne_eq, Option.map_eq_none_iff]
  have e : n ∈ (L.flatMap fun s => s.2.map (·.1)) ↔ ∃ s ∈ L, ∃ x ∈ s.2, x.1 = n := by
    rw [List.mem_flatMap]; simp only [List.mem_map]
  rw [e]
  constructor
  · intro hn
    cases hg : restF L n with
    | none => exact absurd hg hn
    | some g =>
      obtain ⟨_, v, hv⟩ := restF_some hg
      obtain ⟨k, hk⟩ := List.exists_mem_of_ne_nil _ hv
      obtain ⟨s, hs, _, hx⟩ := hasL_mem.1 hk
      exact ⟨s, hs, _, hx, rfl⟩
  · rintro ⟨s, hs, ⟨a, b⟩, hx, rfl⟩ hn
    unfold restF at hn
    split at hn
    · cases hn
    · rename_i hno
      exact hno ⟨b, List.ne_nil_of_mem (hasL_mem.2 ⟨s, hs, rfl, hx⟩)⟩
theorem iE_values {w : World} {xb : Nat} {L : List Ser} {G : Gh} (h : IxE w xb L G) {n : ByteArray} {g : ByteArray → Option (List Nat)} (hg : restF L n = some g) : riseT ((G.iE n).map (·.1)) = valuesL L n := by
  unfold valuesL
  refine riseT_congr fun v => ?_
  obtain ⟨i1, i2, i3⟩ := h.po.im n g hg
  have h9 := valuesL_mem (L := L) (n := n) (v := v)
  unfold valuesL at h9
  rw [riseT_mem] at h9
  rw [key_iff, i3, ne_eq, Option.map_eq_none_iff, h9]
  obtain ⟨rfl, _⟩ := restF_some hg
  constructor
  · intro hn
    unfold vlF at hn
    split at hn
    · exact absurd rfl hn
    · rename_i hv
      obtain ⟨k, hk⟩ := List.exists_mem_of_ne_nil _ hv
      obtain ⟨s, hs, _, hx⟩ := hasL_mem.1 hk
      exact ⟨s, hs, hx⟩
  · rintro ⟨s, hs, hx⟩ hn
    unfold vlF at hn
    rw [if_neg (List.ne_nil_of_mem (hasL_mem.2 ⟨s, hs, rfl, hx⟩))] at hn
    cases hn
theorem valuesL_none {L : List Ser} {n : ByteArray} (h : restF L n = none) : valuesL L n = [] := by
  refine risT_unique (riseT_ris _) List.Pairwise.nil fun v => ?_
  show v ∈ valuesL L n ↔ _
  rw [valuesL_mem]
  refine ⟨fun ⟨s, hs, hx⟩ => ?_, fun hv => by cases hv⟩
  unfold restF at h
  split at h
  · cases h
  · rename_i hno
    exact absurd ⟨v, List.ne_nil_of_mem (hasL_mem.2 ⟨s, hs, rfl, hx⟩)⟩ hno
def TxtO (w : World) (r : List ByteArray) (e : Ending) (w' : World) : Prop := ∃ A c, e = .returned (.slice A r.length c) ∧ w'.ownsRow w.heap.size 9 1 (.slice A r.length c) r.length (tcells r) ∧ Below w.heap.size w w'
theorem small_of {L : List Ser} (h : Wf L) : SmallM L := ⟨by have := h.few; omega, fun s hs => (right_parts (h.right s hs)).1⟩
theorem inames_any {w : World} {xb : Nat} {L : List Ser} {G : Gh} (h : IxE w xb L G) : Calls Tryz.prog 28 #[.pointer (some ⟨xb, 0, none⟩)] w (TxtO w (namesL L)) := by
  have HM := Lib.hid (imade_any h.box)
  have c2 := cell_blk h.box 2
  simp only [List.getElem?_toArray, List.getElem?_cons_succ, List.getElem?_cons_zero] at c2
  have hs := sortedN_any h.po.pm (post_le h.po (small_of h.wf)).1
  rw [pE_names h] at hs
  have HS := Lib.hid hs
  clear h hs
  generalize namesL L = R at HS
  go_enter Tryz.func28, Tryz.ntmps28
  go_wp2_with (first
    | (go_at_call 47; refine HM.out.mono ?_; rintro e w1 ⟨rfl, rfl⟩)
    | (go_at_call 56; refine (keysN_any _ _).mono ?_; rintro e w2 ⟨rfl, rfl⟩)
    | (go_at_call 55; refine HS.out.mono ?_; rintro e w3 ⟨v, rfl, ho, hb⟩; have HO := Lib.hid ho; have HB := Lib.hid hb; clear ho hb)
    | fail)
  go_ret
  obtain ⟨A, c, rfl, -⟩ := own_rdT HO.out
  exact ⟨A, c, rfl, HO.out.lower (by omega), ((Below.refl _ w).alloc (Nat.le_refl _) _).trans (HB.out.mono (by omega))⟩
theorem ivalues_any {w : World} {xb : Nat} {L : List Ser} {G : Gh} (h : IxE w xb L G) (n : ByteArray) (hn : n.size ≤ 1000000) : Calls Tryz.prog 30 #[.pointer (some ⟨xb, 0, none⟩), .string n] w (TxtO w (valuesL L n)) := by
  have HM := Lib.hid (imade_any h.box)
  have c2 := cell_blk h.box 2
  simp only [List.getElem?_toArray, List.getElem?_cons_succ, List.getElem?_cons_zero] at c2
  have hlk := IxF.look_name h.po (s := n) (by unfold maxLen; omega) false
  cases hg : restF L n with
  | none =>
    rw [hg] at hlk
    simp only [Option.map_none, Option.getD_none, Bool.false_eq_true, if_false] at hlk
    rw [valuesL_none hg]
    have HS := Lib.hid (sorted_nilV w)
    clear h hg
    go_enter Tryz.func30, Tryz.ntmps30
    go_wp2_with (first
      | (go_at_call 47; refine HM.out.mono ?_; rintro e w1 ⟨rfl, rfl⟩)
      | (go_at_call 58; refine (keysV_any _ _).mono ?_; rintro e w2 ⟨rfl, rfl⟩)
      | (go_at_call 55; refine HS.out.mono ?_; rintro e w3 ⟨v, rfl, ho, hb⟩; have HO := Lib.hid ho; have HB := Lib.hid hb; clear ho hb)
      | fail)
    go_ret
    obtain ⟨A, c, rfl, -⟩ := own_rdT (l := []) HO.out
    exact ⟨A, c, rfl, HO.out.lower (by omega), ((Below.refl _ w).alloc (Nat.le_refl _) _).trans (HB.out.mono (by omega))⟩
  | some g =>
    rw [hg] at hlk
    simp only [Option.map_some, Option.getD_some, Bool.false_eq_true, if_false] at hlk
    have hs := sortedV_any (h.po.im n g hg).1 ((post_le h.po (small_of h.wf)).2 n g hg).1
    rw [iE_values h hg] at hs
    have HS := Lib.hid hs
    clear h hs hg
    generalize valuesL L n = R at HS
    go_enter Tryz.func30, Tryz.ntmps30
    go_wp2_with (first
      | (go_at_call 47; refine HM.out.mono ?_; rintro e w1 ⟨rfl, rfl⟩)
      | (go_at_call 58; refine (keysV_any _ _).mono ?_; rintro e w2 ⟨rfl, rfl⟩)
      | (go_at_call 55; refine HS.out.mono ?_; rintro e w3 ⟨v, rfl, ho, hb⟩; have HO := Lib.hid ho; have HB := Lib.hid hb; clear ho hb)
      | fail)
    go_ret
    obtain ⟨A, c, rfl, -⟩ := own_rdT HO.out
    exact ⟨A, c, rfl, HO.out.lower (by omega), ((Below.refl _ w).alloc (Nat.le_refl _) _).trans (HB.out.mono (by omega))⟩
end
end
end Go.Proofs.YtjgappbomohlcaaGreatDoor
