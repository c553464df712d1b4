/-
  The place of a time in a list, and whether it is there: the program's and the plain answers' own.
-/
import Derived.Test.YtfohmepjedehfaaPt2
namespace Go.Proofs.Ytfohmepjedehfaa
set_option linter.unusedVariables false
set_option linter.unusedSimpArgs false
open Go.RowKit
section
set_option maxHeartbeats 1600000
set_option maxRecDepth 100000
theorem find_any (A : Option Addr) (c : Nat) (l : List Pt) (t : Int) (w : World) (hx : Rd w A (pcells l)) (hl : l.length ≤ 2000) :
    Calls Try.prog 15 #[.slice A l.length c, .int .i64 t] w fun e w' => (∃ (n : Nat) (b : Bool), e = .returned (.tuple #[.int .i64 (n : Int), .bool b]) ∧ n ≤ l.length ∧ (Srt l → n = findP l t ∧ b = isAt l t)) ∧ RowKit.Below w.heap.size w w' := by
  have hmf : ∀ (fn : Fn) (first cap : Array Value) (w : World), (Instr.makeFunc fn first cap).run Try.prog w = .ok (.func fn first cap) w := fun _ _ _ _ => rfl
  have hb0 : RowKit.Below w.heap.size w (w.alloc (.cells #[.int .i64 t] 2)) := (RowKit.Below.refl _ w).alloc (Nat.le_refl _) _
  have hbox := heap_alloc_new w (.cells #[.int .i64 t] 2)
  have egk : ∀ args w, (callFunc 25 args).run Try.prog w = .ok (.enter 25 args) w := enters_of Try.func25 (by kernel_rfl) rfl
  have hcl := first_any A c l (w.alloc (.cells #[.int .i64 t] 2)) 25 #[.pointer (some ⟨w.heap.size, 0, none⟩)] (fun p => decide (p.1 < t)) egk
    (fun W x hW => find1_tells w.heap.size t W x ((hW.block _ (by simp)).trans hbox)) (hx.alloc _) hl
  have HC := Lib.hid hcl; have HBX := Lib.hid hbox; have HB0 := Lib.hid hb0; have HX := Lib.hid (hx.alloc (.cells #[.int .i64 t] 2))
  clear hcl hbox hb0 hx egk
  go_enter Try.func15, Try.ntmps15
  go_wp2_with (first | (go_at_call 24; refine HC.out.mono ?_; rintro e w1 ⟨⟨n, rfl, hn, hm⟩, hb⟩) | fail)
  have hbx1 := (hb.block _ (by simp)).trans HBX.out
  have d0 := cell_blk hbx1 0
  simp only [List.getElem?_toArray, List.getElem?_cons_zero] at d0
  have HB := Lib.hid (HB0.out.trans (hb.mono HB0.out.size))
  have hrd := HX.out.below hb
  have HM := Lib.hid hm
  clear hm hb hbx1
  have n0 : (0 : Int) ≤ (n : Int) := by omega
  by_cases hlt : n < l.length
  · have n1 : (n : Int) < (l.length : Int) := by omega
    obtain ⟨b, off, rfl, c0, -, -⟩ := pt_at hrd hlt
    have hres : ∀ q : Bool, q = decide (l[n].1 = t) → Srt l → n = findP l t ∧ q = isAt l t := fun q hq hs => by
      have hf := find_of (t := t) (fun j hj hjn => by have := (HM.out (mono_srt hs t)).1 j hj hjn; simpa using this) (fun hh => by have := (HM.out (mono_srt hs t)).2 hh; simpa using this) hn
      exact ⟨hf.symm, by rw [isAt_of hf hlt, hq]⟩
    have HRES := Lib.hid hres
    clear hres hrd
    generalize l[n].1 = y at c0 HRES
    by_cases hy : y = t
    · subst hy
      have hb1 : (y == y) = true := by simp
      go_wp2
      go_quiet (fail)
      go_wp2
      go_ret2
      exact ⟨⟨n, true, rfl, hn, HRES.out true (by simp)⟩, below_drewN HB.out _⟩
    · have hb1 : (y == t) = false := by simp [hy]
      go_wp2
      go_quiet (fail)
      go_wp2
      go_ret2
      exact ⟨⟨n, false, rfl, hn, HRES.out false (by simp [hy])⟩, below_drewN HB.out _⟩
  · have n1 : ¬ (n : Int) < (l.length : Int) := by omega
    have hres : Srt l → n = findP l t ∧ false = isAt l t := fun hs => by
      have hf := find_of (t := t) (fun j hj hjn => by have := (HM.out (mono_srt hs t)).1 j hj hjn; simpa using this) (fun hh => by have := (HM.out (mono_srt hs t)).2 hh; simpa using this) hn
      exact ⟨hf.symm, by rw [isAt_end (by omega)]⟩
    have HRES := Lib.hid hres
    clear hres hrd
    go_wp2
    go_quiet (fail)
    go_wp2
    go_ret2
    exact ⟨⟨n, false, rfl, hn, HRES.out⟩, below_drewN HB.out _⟩
theorem rfind_any (A : Option Addr) (c : Nat) (l : List Pt) (t : Int) (w : World) (hx : Rd w A (pcells l)) (hl : l.length ≤ 2000) :
    Calls Try.prog 16 #[.slice A l.length c, .int .i64 t] w fun e w' => e = .returned (.tuple #[.int .i64 (findP l t : Nat), .bool (isAt l t)]) ∧ RowKit.Below w.heap.size w w' := by
  go_enter Try.func16, Try.ntmps16
  go_wp2
  go_loopw [10] (fun s10 wr => ∃ k : Nat, s10 = .int .i64 k ∧ k ≤ l.length ∧ Aside (RowKit.Below w.heap.size w wr) ∧ Aside (∀ j, (h : j < l.length) → j < k → l[j].1 < t)) (fun s10 _ => l.length - (intOf s10).toNat)
  case atStart => exact ⟨0, rfl, by omega, RowKit.Below.refl _ _, fun j _ hj => absurd hj (Nat.not_lt_zero _)⟩
  case round =>
    obtain ⟨k, rfl, hk, BW, E⟩ := hrel
    have k0 : (0 : Int) ≤ (k : Int) := by omega
    by_cases hlt : k < l.length
    · have k1 : (k : Int) < (l.length : Int) := by omega
      obtain ⟨b, off, rfl, c0, c1, c2⟩ := pt_at (hx.below BW.out) hlt
      have hE := E.out
      have hge : ¬ l[k].1 < t → findP l t = k ∧ isAt l t = decide (l[k].1 = t) := fun h => by
        have hf := find_of hE (fun _ => h) hk
        exact ⟨hf, isAt_of hf hlt⟩
      have hlt2 : l[k].1 < t → ∀ j, (h : j < l.length) → j < k + 1 → l[j].1 < t := fun h j hj hjk => by
        by_cases e : j = k
        · subst e; exact h
        · exact hE j hj (by omega)
      have HGE := Lib.hid hge; have HLT := Lib.hid hlt2
      clear hge hlt2 hE E hx
      generalize l[k] = x at c0 c1 c2 HGE HLT
      obtain ⟨x1, x2, x3⟩ := x
      simp only at c0 c1 c2 HGE HLT
      have HBW := Lib.hid (BW.out.alloc BW.out.size (.cells #[.int .i64 x1, .int .u64 x2, .int .u64 x3] 25))
      clear BW
      by_cases hxt : x1 < t
      · have hxt' : ¬ t ≤ x1 := by omega
        go_wp2
        go_roundw
        case rel => exact ⟨k + 1, by go_num, by omega, (show Aside _ from HBW.out), (show Aside _ from HLT.out hxt)⟩
        case measure => simp [intOf]; omega
      · have hxt' : t ≤ x1 := by omega
        obtain ⟨r1, r2⟩ := HGE.out hxt
        by_cases hy : x1 = t
        · subst hy
          have hb1 : (x1 == x1) = true := by simp
          have R1 := Lib.hid r1; have R2 := Lib.hid r2; clear r1 r2
          go_wp2
          go_quiet (fail)
          go_wp2
          go_ret2
          exact ⟨by rw [R1.out, R2.out]; simp, below_drewN HBW.out _⟩
        · have hb1 : (x1 == t) = false := by simp [hy]
          have R1 := Lib.hid r1; have R2 := Lib.hid r2; clear r1 r2
          go_wp2
          go_quiet (fail)
          go_wp2
          go_ret2
          exact ⟨by rw [R1.out, R2.out]; simp [hy], below_drewN HBW.out _⟩
    · obtain rfl : k = l.length := by omega
      have hf := find_of E.out (fun h => absurd h (Nat.lt_irrefl _)) hk
      have HF := Lib.hid hf
      have HI := Lib.hid (isAt_end hf)
      have HBW := Lib.hid BW.out; clear E BW hf
      go_wp2
      go_ret2
      exact ⟨by rw [HF.out, HI.out]; rfl, HBW.out⟩
end
end Go.Proofs.Ytfohmepjedehfaa
