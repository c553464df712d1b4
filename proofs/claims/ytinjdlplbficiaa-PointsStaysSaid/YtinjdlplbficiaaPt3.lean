/-
  The place of a time in a list, and whether it is there: the program's and the plain answers' own.
-/
import Derived.Test.YtinjdlplbficiaaPt2
namespace Go.Proofs.Ytinjdlplbficiaa
set_option linter.unusedVariables false
set_option linter.unusedSimpArgs false
open Go.RowKit
section
set_option maxHeartbeats 1600000
set_option maxRecDepth 100000
theorem find_any (A : Option Addr) (c : Nat) (l : List Pt) (t : Int) (w : World) (hx : Rd w A (pcells l)) (hl : l.length ≤ 2000) :
    Calls Try.prog 15 #[.slice A l.length c, .int .i64 t] w fun e w' => (∃ (n : Nat) (b : Bool), e = .returned (.tuple #[.int .i64 (n : Int), .bool b]) ∧ n ≤ l.length ∧ (Srt l → n = findP l t ∧ b = isAt l t)) ∧ RowKit.Below w.heap.size w w' := by
  have hmf : ∀ (fn : Fn) (first cap : Array Value) (w : World), (Instr.makeFunc fn first cap).run Try.prog w = .ok (.func fn first cap) w := fun _ _ _ _ => rfl
  have hb0 : RowKit.Below w.heap.size w (w.alloc (.cells #[.int .i64 t] 2)) := (RowKit.Below.refl _ w).alloc (Nat.le_refl _) _
  have hbox := heap_alloc_new w (.cells #[.int .i64 t] 2)
  have egk : ∀ args w, (callFunc 44 args).run Try.prog w = .ok (.enter 44 args) w := enters_of Try.func44 (by kernel_rfl) rfl
  have hcl := first_any A c l (w.alloc (.cells #[.int .i64 t] 2)) 44 #[.pointer (some ⟨w.heap.size, 0, none⟩)] (fun p => decide (p.1 < t)) egk
    (fun W x hW => find1_tells w.heap.size t W x ((hW.block _ (by simp)).trans hbox)) (hx.alloc _) hl
  have HC := Lib.hid hcl; have HBX := Lib.hid hbox; have HB0 := Lib.hid hb0; have HX := Lib.hid (hx.alloc (.cells #[.int .i64 t] 2))
  clear hcl hbox hb0 hx egk
  go_enter Try.func15, Try.ntmps15
  go_wp2_with (first | (go_at_call 43; refine HC.out.mono ?_; rintro e w1 ⟨⟨n, rfl, hn, hm⟩, hb⟩) | fail)
  have hbx1 := (hb.block _ (by simp)).trans HBX.out
  have d0 := cell_blk hbx1 0
  simp only [List.getElem?_toArray, List.getElem?_cons_zero] at d0
  have HB := Lib.hid (HB0.out.trans (hb.mono HB0.out.size))
  have hrd := HX.out.below hb
  have HM := Lib.hid hm
  clear hm hb hbx1
  have n0 : (0 : Int) ≤ (n : Int) := by omega
  by_cases hlt : n < l.length
  · have n1 : (n : Int) < (l.length : Int) := by omega
    obtain ⟨b, off, rfl, c0, -, -⟩ := pt_at hrd hlt
    have hres : ∀ q : Bool, q = decide (l[n].1 = t) → Srt l → n = findP l t ∧ q = isAt l t := fun q hq hs => by
      have hf := find_of (t := t) (fun j hj hjn => by have := (HM.out (mono_srt hs t)).1 j hj hjn; simpa using this) (fun hh => by have := (HM.out (mono_srt hs t)).2 hh; simpa using this) hn
      exact ⟨hf.symm, by rw [isAt_of hf hlt, hq]⟩
    have HRES := Lib.hid hres
    clear hres hrd
    generalize l[n].1 = y at c0 HRES
    by_cases hy : y = t
    · subst hy
      have hb1 : (y == y) = true := by simp
      go_wp2
      go_quiet (fail)
      go_wp2
      go_ret2
      exact ⟨⟨n, true, rfl, hn, HRES.out true (by simp)⟩, below_drewN HB.out _⟩
    · have hb1 : (y == t) = false := by simp [hy]
      go_wp2
      go_quiet (fail)
      go_wp2
      go_ret2
      exact ⟨⟨n, false, rfl, hn, HRES.out false (by simp [hy])⟩, below_drewN HB.out _⟩
  · have n1 : ¬ (n : Int) < (l.length : Int) := by omega
    have hres : Srt l → n = findP l t ∧ false = isAt l t := fun hs => by
      have hf := find_of (t := t) (fun j hj hjn => by have := (HM.out (mono_srt hs t)).1 j hj hjn; simpa using this) (fun hh => by have := (HM.out (mono_srt hs t)).2 hh; simpa using this) hn
      exact ⟨hf.symm, by rw [isAt_end (by omega)]⟩
    have HRES := Lib.hid hres
    clear hres hrd
    go_wp2
    go_quiet (fail)
    go_wp2
    go_ret2
    exact ⟨⟨n, false, rfl, hn, HRES.out⟩, below_drewN HB.out _⟩
end
end Go.Proofs.Ytinjdlplbficiaa
