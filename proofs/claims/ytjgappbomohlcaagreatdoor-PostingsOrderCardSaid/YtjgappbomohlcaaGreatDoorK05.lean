/-
  Both indexes behind any operations.
-/
import Derived.Test.YtjgappbomohlcaaGreatDoorKPyn
import Derived.Test.YtjgappbomohlcaaGreatDoorK04
namespace Go.Proofs.YtjgappbomohlcaaGreatDoor
section
set_option linter.unusedVariables false
set_option linter.unusedSimpArgs false
open Go.RowKit
theorem two_start {w w1 : World} {xb : Nat} {G : Gh} (h : IxE w1 xb [] G) (hb : Below w.heap.size w w1) (hg : ∀ k, G.tg k ≠ .no → w.heap.size ≤ k) :
    Two w (w1.alloc (.cells #[.slice none 0 0] 34)) xb w1.heap.size (fun k => G.tg k ≠ .no ∨ k = w1.heap.size) [] [] := by
  have hb2 : Below w1.heap.size w1 (w1.alloc (.cells #[.slice none 0 0] 34)) := (Below.refl _ w1).alloc (Nat.le_refl _) _
  have hr : RixE (w1.alloc (.cells #[.slice none 0 0] 34)) w1.heap.size (fun k => k = w1.heap.size) (.slice none 0 0) [] :=
    ⟨heap_alloc_new w1 _, World.ownsRow_nil _ _ _ _, (fun y hy => (by cases hy)), rfl, (fun k hk => (by cases hk)), (fun y hy => (by cases hy)), (fun k hk => (by simp [hk])), (by simp), (fun y hy => (by cases hy))⟩
  refine ⟨⟨G, fun k => k = w1.heap.size, .slice none 0 0, [], h.below hb2, hr, rfl, fun k hk => .inl hk, fun k hk => .inr hk, fun k hk => ?_⟩, fun k hk => ?_, fun k hk => ?_, hb.trans (hb2.mono hb.size)⟩
  · rw [hk]; exact Classical.byContradiction fun e => Nat.lt_irrefl _ (h.al _ e)
  · rcases hk with hk | hk
    · have := h.al k hk; simp; omega
    · simp [hk]
  · rcases hk with hk | hk
    · exact hg k hk
    · have := hb.size; omega
def opsL (L : List Ser) (l : List OpP) : List Ser := l.foldl opL L
theorem opsL_take {L : List Ser} {l : List OpP} {k : Nat} {o : OpP} (h : l[k]? = some o) : opsL L (l.take (k + 1)) = opL (opsL L (l.take k)) o := by
  obtain ⟨h1, h2⟩ := List.getElem?_eq_some_iff.1 h
  unfold opsL
  rw [List.take_succ_eq_append_getElem h1, h2, List.foldl_append]; rfl
/-- What came in with an operation lies below. -/
theorem op_low {w : World} {o : OpP} (h : Rd w o.A (lcells o.ls)) (h0 : 0 < o.ls.length) {b : Nat} (hb : o.A.map (·.block) = some b) : b < w.heap.size := by
  obtain ⟨b', off, e, c0, _⟩ := lb_at h (k := 0) h0
  rw [e] at hb
  injection hb with hb
  subst hb
  exact World.block_lt_of_cell? w _ c0
section
set_option maxHeartbeats 3200000
set_option maxRecDepth 100000
theorem neq_ptr (b : Nat) (w : World) : (binOp .eql 29 (.pointer (some ⟨b, 0, none⟩)) (.pointer none)).run Tryz.prog w = .ok (.bool false) w := by first | rfl | kernel_rfl
theorem laid_any (A : Option Addr) (c : Nat) (l : List OpP) (w : World) (hT : Tabs w) (hx : Rd w A (l.flatMap opP)) (ho : ∀ o ∈ l, OpIn w o) (hf : fewOpsB l = true) :
    Calls Tryz.prog 23 #[.slice A l.length c] w fun e w' => ∃ xb p T, e = .returned (.tuple #[.pointer (some ⟨xb, 0, none⟩), .pointer (some ⟨p, 0, none⟩), .bool true]) ∧ Two w w' xb p T (opsL [] l) (opsL [] l) := by
  obtain ⟨hl60, hfe⟩ := fewOps_of hf
  have HN := Lib.hid (inew_any w)
  have HOI := Lib.hid ho
  have HFE := Lib.hid hfe
  have HX := Lib.hid hx
  have HT := Lib.hid hT
  have heq := neq_ptr
  clear hT hx ho hf hfe
  go_enter Tryz.func23, Tryz.ntmps23
  go_wp2_with (first
    | (go_at_call 14; refine HN.out.mono ?_; rintro e w1 ⟨xb, G, rfl, hi, hb, hg⟩; have HTW := Lib.hid (two_start hi hb hg); clear hi hb hg)
    | fail)
  go_loopw [16] (fun s16 wr => ∃ (k : Nat) (T : Nat → Prop), s16 = .int .i64 k ∧ k ≤ l.length ∧ Aside (Two w wr xb w1.heap.size T (opsL [] (l.take k)) (opsL [] (l.take k)))) (fun s16 _ => l.length - (intOf s16).toNat)
  case atStart => exact ⟨0, _, rfl, Nat.zero_le _, (show Aside _ from HTW.out)⟩
  case round =>
    obtain ⟨k, T, rfl, hk, HK⟩ := hrel
    have k0 : (0 : Int) ≤ (k : Int) := by omega
    by_cases hlt : k < l.length
    · have k1 : (k : Int) < (l.length : Int) := by omega
      obtain ⟨y, hy⟩ : ∃ y, l[k]? = some y := ⟨_, List.getElem?_eq_getElem hlt⟩
      obtain ⟨b, off, rfl, hcl⟩ := (HX.out.below HK.out.bel).flat opP_len (by decide) hy
      have d0 := hcl 0 _ rfl; have d1 := hcl 1 _ rfl; have d2 := hcl 2 _ rfl
      rw [Nat.add_zero] at d0
      have hmem := List.mem_of_getElem? hy
      have hoi := HOI.out y hmem
      have hbb : Below wr.heap.size wr (wr.alloc (.cells #[.bool y.cut, .int .u64 (y.ref : Nat), .slice y.A y.ls.length y.c] 36)) := (Below.refl _ wr).alloc (Nat.le_refl _) _
      have hdo := does_any (HK.out.below hbb) HT.out y hoi.1 ((hoi.2.1.below HK.out.bel).below hbb) (fun h0 b hb e => by have := HK.out.lo b e; have := op_low hoi.2.1 h0 hb; omega) (HFE.out y hmem)
      rw [← opsL_take hy] at hdo
      have HDO := Lib.hid hdo
      have HTK := Lib.hid HK.out
      clear hcl hy hmem hoi hdo HK hbb
      obtain ⟨ct, n, Ay, cy, ls⟩ := y
      simp only at d0 d1 d2 HDO
      generalize ls.length = m at d2 HDO
      go_wp2_with (first
        | (go_at_call 15; refine HDO.out.mono ?_; rintro e w3 ⟨rfl, T3, h3, -, -⟩; have H3 := Lib.hid h3; clear h3)
        | fail)
      go_roundw
      case rel => exact ⟨k + 1, T3, by go_num, by omega, (show Aside _ from H3.out)⟩
      case measure => simp [intOf]; omega
    · obtain rfl : k = l.length := by omega
      go_wp2_with fail
      go_ret3
      have h9 := HK.out
      rw [List.take_length] at h9
      exact ⟨xb, w1.heap.size, T, rfl, h9⟩
end
end
end Go.Proofs.YtjgappbomohlcaaGreatDoor
