/-
  slices.SortFunc over labels of the call's own, by their names.
-/
import Derived.Test.YtgibcfeioljofaaGreatDoorDf
import Derived.Test.YtgibcfeioljofaaGreatDoorShelf
import Derived.Test.YtgibcfeioljofaaGreatDoorShelf2
namespace Go.Proofs.YtgibcfeioljofaaGreatDoor
set_option linter.unusedVariables false
set_option linter.unusedSimpArgs false
open Go.RowKit

def encL (x : Lb) : List Value := [.string x.1, .string x.2]
def cfL (x y : Lb) : Int := Lib.compareBytes (bl x.1) (bl y.1)
theorem ltL (x y : Lb) : Go.Proofs.ltOf cfL x y = decide (bl x.1 < bl y.1) := by
  unfold Go.Proofs.ltOf cfL
  exact decide_eq_decide.2 cmpB_neg
theorem swoL : Go.Sort.SWO (Go.Proofs.ltOf cfL) where
  irrefl x := by rw [ltL]; simp
  trans x y z h1 h2 := by rw [ltL] at *; simp only [decide_eq_true_eq] at *; exact ltB_trans h1 h2
  ntrans x y z h1 h2 := by
    rw [ltL] at *
    simp only [decide_eq_false_iff_not] at *
    intro h
    rcases ltB_total (bl x.1) (bl y.1) with a | a | a
    · exact h1 a
    · rw [a] at h; exact h2 h
    · exact h2 (ltB_trans a h)
theorem lcells_flat (d : Array Lb) : (lcells d.toList).toArray = Go.Sort.flatK encL 2 d := by
  apply Array.ext
  · simp [lcells_len]
  · intro t h1 h2
    have hlt : t < d.size * 2 := by simpa [lcells_len] using h1
    have e1 := Go.Sort.get_flatK encL 2 d t hlt
    rw [getElem!_pos _ t h2] at e1
    rw [e1]
    have hd : t / 2 < d.size := by omega
    have hd' : t / 2 < d.toList.length := by simpa using hd
    have key : (lcells d.toList)[t]? = some ((encL d[t / 2]!)[t % 2]!) := by
      rw [getElem!_pos d (t / 2) hd]
      have ht : t = t / 2 * 2 + t % 2 := by omega
      rcases Nat.mod_two_eq_zero_or_one t with h | h
      · rw [h]
        have := lcells_fst d.toList (t / 2) hd'
        rw [show t / 2 * 2 = t by omega] at this
        rw [this]; simp [encL]
      · rw [h]
        have := lcells_snd d.toList (t / 2) hd'
        rw [show t / 2 * 2 + 1 = t by omega] at this
        rw [this]; simp [encL]
    have hl : t < (lcells d.toList).length := by simpa using h1
    rw [List.getElem?_eq_getElem hl] at key
    simpa using Option.some.inj key
theorem holdsL {w : World} {g : Nat} {d : Array Lb} (hg : w.heap[g]? = some (.cells (lcells d.toList).toArray 26 (0, 0))) : Go.Sort.HoldsK encL 2 w g 0 d := by
  intro j hj
  rw [← lcells_flat] at hj ⊢
  rw [Nat.zero_add]
  refine ⟨?_, free_blk hg j⟩
  rw [cell_blk hg j, getElem!_pos _ j hj]
  exact Array.getElem?_eq_getElem hj
theorem sort_row {w W : World} {g n : Nat} {d d' : Array Lb} {os : Array Obj} (hg : w.heap[g]? = some (.cells (lcells d.toList).toArray 26 (0, 0))) (hs : d'.size = d.size) (hW : W = Go.Proofs.sortWorldK encL 2 w g 0 n d' os) :
    W.heap[g]? = some (.cells (lcells d'.toList).toArray 26 (0, 0)) ∧ Mv (· = g) w W := by
  have hgl := blk_lt hg
  have h1 : (Go.Sort.putRowK encL 2 (Go.Sort.ahead w n) g 0 d').heap[g]? = some (.cells (lcells d'.toList).toArray 26 (0, 0)) := by
    show (Go.Sort.mapBlock (Go.Sort.ahead w n) g _).heap[g]? = _
    unfold Go.Sort.mapBlock
    show (w.heap.modify g _)[g]? = _
    rw [Array.getElem?_modify, if_pos rfl, hg]
    simp only [Option.map_some, Go.Sort.onCells]
    congr 2
    rw [lcells_flat, lcells_flat]
    apply Array.ext
    · simp [Go.Sort.putCells, hs]
    · intro i h1 h2
      simp only [Go.Sort.putCells, Array.getElem_mapIdx, Nat.zero_le, true_and, Nat.zero_add, Nat.sub_zero]
      rw [if_pos h2, getElem!_pos _ i h2]; rfl
  have hsz : (Go.Sort.putRowK encL 2 (Go.Sort.ahead w n) g 0 d').heap.size = w.heap.size := by
    unfold Go.Sort.putRowK
    rw [Go.Sort.size_putRow]; rfl
  subst hW
  unfold sortWorldK
  refine ⟨?_, rfl, rfl, rfl, ?_, ?_⟩
  · rw [Go.Sort.heap_grow_old _ os (by rw [hsz]; exact hgl)]; exact h1
  · rw [Go.Sort.size_grow, hsz]; exact Nat.le_add_right _ _
  · intro k hk hn
    rw [Go.Sort.heap_grow_old _ os (by rw [hsz]; exact hk)]
    show (Go.Sort.mapBlock (Go.Sort.ahead w n) g _).heap[k]? = w.heap[k]?
    unfold Go.Sort.mapBlock
    show (w.heap.modify g _)[k]? = w.heap[k]?
    rw [Array.getElem?_modify, if_neg (fun e => hn e.symm)]
section
set_option maxHeartbeats 1600000
set_option maxRecDepth 100000
theorem less_any (x y : Lb) (W : World) : Calls Tryz.prog 51 #[.agg #[.string x.1, .string x.2], .agg #[.string y.1, .string y.2]] W fun e w' => e = .returned (.int .i64 (cfL x y)) ∧ ∃ q os', w' = Go.Sort.grow (W.drewN q) os' := by
  have hcon := fun W' => Tryz.strings_Compare x.1 y.1 W'
  unfold cfL bl
  generalize Lib.compareBytes x.1.data.toList y.1.data.toList = r at hcon ⊢
  go_enter Tryz.func51, Tryz.ntmps51
  go_wp2_with (first | (go_at_call 52; refine (hcon _).mono ?_; rintro e w' ⟨rfl, rfl⟩) | fail)
  go_ret
  exact ⟨rfl, 0, _, by rw [Go.Sort.alloc_eq_grow, Go.Sort.alloc_eq_grow, Go.Sort.grow_grow]; rfl⟩
theorem sortf_some (g c : Nat) (l : List Lb) (w : World) (hg : w.heap[g]? = some (.cells (lcells l).toArray 26 (0, 0))) (hl : l.length ≤ 1000000) :
    Calls Tryz.prog 50 #[.slice (some ⟨g, 0, none⟩) l.length c, .func (.func 51) #[] #[]] w fun e w' => e = .returned (.tuple #[]) ∧ ∃ m : List Lb, m.Perm l ∧ (m.Pairwise fun x y => ¬ bl y.1 < bl x.1) ∧
      w'.heap[g]? = some (.cells (lcells m).toArray 26 (0, 0)) ∧ Mv (· = g) w w' := by
  obtain ⟨d, rfl⟩ : ∃ d : Array Lb, d.toList = l := ⟨l.toArray, by simp⟩
  have hdl : d.toList.length = d.size := by simp
  rw [hdl] at hl ⊢
  have eg : ∀ args w, (callFunc 51 args).run Tryz.prog w = .ok (.enter 51 args) w := enters_of Tryz.func51 (by kernel_rfl) rfl
  have hcmp : CmpLays Tryz.prog 51 #[] encL 2 cfL g 0 d.size w := fun _ _ _ _ x y => less_any x y _
  have hH := holdsL hg
  have hgl := blk_lt hg
  have hlim : Lib.bitLen d.size < 4611686018427387904 := Nat.lt_of_le_of_lt (Lib.bitLen_le d.size 62 (by omega) (by omega)) (by omega)
  have hp := AnyQ.pdqsortCmpFunc_all Tryz.pdqF 2 (fun w => Tryz.isAgg26 w) (fun w => Tryz.sizeOf26 w) encL cfL 51 #[] swoL g 0 c d w eg hcmp
    ⟨fun _ => rfl, fun x v hv => by simp [encL] at hv; rcases hv with rfl | rfl <;> rfl, hH, hgl⟩ (d.size + 1) 0 d.size (Lib.bitLen d.size) d w (by omega) rfl (SWK.start hH) (Nat.zero_le _) (Nat.le_refl _) (by omega) hlim (Or.inl rfl)
  have hs := Go.Sort.pdq_sorts (Go.Proofs.ltOf cfL) swoL d 0 d.size (Lib.bitLen d.size) true true (Nat.zero_le _) (Nat.le_refl _) (Or.inl rfl)
  have hlen := Tryz.bits_Len (d.size : Int) w (by omega) (by omega)
  rw [Int.toNat_natCast] at hlen
  have wr : IntKind.u64.wrap (d.size : Int) = d.size := by simp [IntKind.wrap, IntKind.bits, IntKind.signed]; omega
  have HS := Lib.hid hs; clear hs
  have HG := Lib.hid hg; clear hg hH hcmp
  generalize Go.Sort.pdq (Go.Proofs.ltOf cfL) d 0 d.size (Lib.bitLen d.size) true true = d' at hp HS
  generalize Lib.bitLen d.size = lim at hp hlen hlim
  have HP := Lib.hid hp; clear hp
  have HL := Lib.hid hlen; clear hlen
  go_enter Tryz.func50, Tryz.ntmps50
  go_wp2_with (first | (go_at_call 83; refine HL.out.mono ?_; rintro e w' ⟨rfl, rfl⟩) | (go_at_call 82; refine HP.out.mono ?_; rintro e w' ⟨rfl, n, os, rfl⟩) | fail)
  go_end0
  obtain ⟨⟨hsz, _, hperm⟩, hsorted⟩ := HS.out
  obtain ⟨r1, r2⟩ := sort_row (n := n) (os := os) HG.out hsz rfl
  refine ⟨rfl, d'.toList, ?_, ?_, r1, r2⟩
  · have e1 : d'.extract 0 d.size = d' := by rw [← hsz]; simp
    have e2 : d.extract 0 d.size = d := by simp
    rw [e1, e2] at hperm
    exact hperm
  · rw [List.pairwise_iff_getElem]
    intro i j hi hj hij
    have hj' : j < d'.size := by simpa using hj
    have := hsorted i j (Nat.zero_le _) hij (by omega)
    rw [ltL, decide_eq_false_iff_not, getElem!_pos d' j hj', getElem!_pos d' i (by omega)] at this
    simpa using this
end
end Go.Proofs.YtgibcfeioljofaaGreatDoor
