/-
  A text as a pattern that matches it alone.
-/
import Derived.Test.YtfohmepjedehfabAr
import Derived.Test.YtfohmepjedehfabQe
import Derived.Test.YtfohmepjedehfabVa6
namespace Go.Proofs.Ytfohmepjedehfab
set_option linter.unusedVariables false
set_option linter.unusedSimpArgs false
open Go.RowKit
theorem Bld.kept {B b : Nat} {xs : List UInt8} {w w' : World} (h : Bld B b xs w) (hb : RowKit.Below w.heap.size w w') : Bld B b xs w' := h.moved hb
/-- A builder stays where an iterator moves on. -/
theorem Bld.iterAt {B b k pos pos' : Nat} {xs : List UInt8} {w : World} {s : ByteArray} (h : Bld B b xs w) (hk : w.heap[k]? = some (.stringIter s pos)) : Bld B b xs (w.iterAt k s pos') := by
  rcases h with ⟨h1, v, h2, h3, h4⟩ | ⟨h1, v, h2, h3, h4⟩
  · exact .inl ⟨h1, v, (Lib.iterAt_other _ _ _ _ _ (fun e => by subst e; rw [hk] at h2; cases h2)).trans h2, own_moved h3 fun g hg => Lib.iterAt_other _ _ _ _ _ (fun e => by subst e; exact own_iter h3 hk hg), h4⟩
  · exact .inr ⟨h1, v, (Lib.iterAt_other _ _ _ _ _ (fun e => by subst e; rw [hk] at h2; cases h2)).trans h2, own_moved h3 fun g hg => Lib.iterAt_other _ _ _ _ _ (fun e => by subst e; exact own_iter h3 hk hg), h4⟩
/-- A text read as far as byte pos, xs written. -/
structure QuIs (w wr : World) (gi : Nat) (s : ByteArray) (pos : Nat) (xs : List UInt8) : Prop where
  bld : Bld w.heap.size w.heap.size xs wr
  it : wr.heap[gi]? = some (.stringIter s pos)
  below : RowKit.Below w.heap.size w wr
  le : pos ≤ s.size
  few : xs.length ≤ 5 * pos
section
set_option maxHeartbeats 3200000
set_option maxRecDepth 100000
theorem quoteC_cons (c : Int) (l : List Int) : quoteC (c :: l) = (if specialP c then [92, c] else [c]) ++ quoteC l := by simp [quoteC]
theorem rexquote_any (s : ByteArray) (w : World) (hs : s.size ≤ 1000) : Calls Try.prog 41 #[.string s] w fun e w' => e = .returned (.string (mkB (encs (quoteC (runesB (bl s)))))) ∧ RowKit.Below w.heap.size w w' := by
  obtain ⟨T, hT⟩ : ∃ T, encs (quoteC (runesB (bl s))) = T := ⟨_, rfl⟩
  rw [hT]
  have HT := Lib.hid hT; clear hT
  have HG := Lib.hid (grow_any s.size w (by omega))
  go_enter Try.func41, Try.ntmps41
  go_wp2_with fail
  refine HG.out.mono ?_
  rintro e w1 ⟨rfl, hb1, hw1⟩
  have HB1 := Lib.hid hb1; have HW1 := Lib.hid hw1
  obtain ⟨gi, hgi⟩ : ∃ gi, gi = w1.heap.size := ⟨_, rfl⟩
  have HGI := Lib.hid hgi
  have HGW := Lib.hid (show w.heap.size < gi by rw [hgi]; exact hb1.parts.2)
  have HQ0 := Lib.hid (show QuIs w (w1.iter s 0) gi s 0 [] from ⟨hb1.moved ((RowKit.Below.refl _ _).alloc (Nat.le_refl _) _), by rw [hgi]; exact World.iter_heap w1 s 0, hw1.alloc hw1.size _, Nat.zero_le _, Nat.zero_le _⟩)
  clear hb1 hw1
  go_wp2_with fail
  rw [← hgi]
  clear hgi
  go_loopw [] (fun wr => ∃ (pos : Nat) (xs : List UInt8), Aside (QuIs w wr gi s pos xs) ∧ Aside (xs ++ encs (quoteC (runesB ((bl s).drop pos))) = T)) (fun wr => s.size - wr.iterPos gi)
  case atStart => exact ⟨0, [], HQ0.out, HT.out⟩
  case round =>
    obtain ⟨pos, xs, HK, HE⟩ := hrel
    have hit := HK.out.it
    have hle := HK.out.le
    by_cases hp : pos < s.size
    · have hne : (bl s).drop pos ≠ [] := by
        intro e
        have := congrArg List.length e
        rw [List.length_drop, bl_len] at this
        simp at this; omega
      have hdd : dL ((bl s).drop pos) = Utf8.decode s pos := Lib.decodeL_drop s pos
      have hE := HE.out
      rw [runesB_step hne, List.drop_drop, quoteC_cons, encs_app] at hE
      have hok := dL_ok _ hne
      obtain ⟨c, wd', hcw⟩ : ∃ c wd, dL ((bl s).drop pos) = (c, wd) := ⟨_, _, rfl⟩
      have hwd : 1 ≤ wd' := by have := dL_pos ((bl s).drop pos); rw [hcw] at this; exact this
      have hwl : pos + wd' ≤ s.size := by have := dL_le hne; rw [hcw, List.length_drop, bl_len] at this; simp only at this; omega
      rw [hcw] at hE hok
      simp only at hE hok
      obtain ⟨w2, hw2⟩ : ∃ w2, w2 = wr.iterAt gi s (pos + wd') := ⟨_, rfl⟩
      have hnx : ∀ ty, (Instr.next (.pointer (some ⟨gi, 0, none⟩)) true ty).run Try.prog wr = .ok (.tuple #[.bool true, .int .i64 (pos : Nat), .int .i32 (c : Nat)]) w2 := fun ty => by
        rw [Lib.run_next_any_at wr gi s pos ty hit hp, ← hdd, hcw, hw2]
      have HB2 := Lib.hid (show Bld w.heap.size w.heap.size xs w2 by rw [hw2]; exact HK.out.bld.iterAt hit)
      have HI2 := Lib.hid (show w2.heap[gi]? = some (.stringIter s (pos + wd')) by rw [hw2]; exact Lib.iterAt_heap wr gi s pos _ hit)
      have HW2 := Lib.hid (show RowKit.Below w.heap.size w w2 by rw [hw2]; exact Lib.below_iterAt HK.out.below (Nat.le_of_lt HGW.out) s _)
      have HOK := Lib.hid hok; have HP := Lib.hid hp; have HIT := Lib.hid hit; have HWD := Lib.hid hwd; have HWL := Lib.hid hwl
      have HFEW := Lib.hid HK.out.few
      have hcs := signs_any (c : Int) w2 (HOK.out.nonneg) (by have := HOK.out; unfold okRune at this; omega)
      have HNE := Lib.hid (show gi ≠ w.heap.size by have := HGW.out; omega)
      have hl4 := enc_len4 (c : Int)
      clear hne hdd hcw hwd hwl hw2 hit hok
      cases hsp : specialP (c : Int) with
      | true =>
        rw [hsp] at hcs hE
        have HE2 := Lib.hid hE; have HC := Lib.hid hcs
        clear hE HE hcs hsp
        go_wp2_with fail
        refine HC.out.mono ?_
        rintro e w3 ⟨rfl, hb3⟩
        have HWB := Lib.hid (wb_k w.heap.size w.heap.size 92 xs w3 (HB2.out.moved hb3) (Nat.le_trans HW2.out.size hb3.size) (by decide) (by have := HFEW.out; omega))
        have HI3 := Lib.hid ((hb3.block _ (blk_lt HI2.out)).trans HI2.out)
        have HW3 := Lib.hid (HW2.out.trans (hb3.mono HW2.out.size))
        clear hb3
        go_wp2_with fail
        refine HWB.out.mono ?_
        rintro e w4 ⟨rfl, hb4, hw4, hk4⟩
        have HWR := Lib.hid (wru_k w.heap.size w.heap.size c (xs ++ [UInt8.ofNat 92]) w4 hb4 (Nat.le_trans HW3.out.size hw4.size) HOK.out (by have := HFEW.out; simp; omega))
        have HI4 := Lib.hid (hk4.iter HI3.out HNE.out)
        have HW4 := Lib.hid (HW3.out.trans hw4)
        clear hb4 hw4 hk4
        go_wp2_with fail
        refine HWR.out.mono ?_
        rintro e w5 ⟨kk, rfl, hb5, hw5, hi5, -⟩
        have HQ := Lib.hid (show QuIs w w5 gi s (pos + wd') (xs ++ [UInt8.ofNat 92] ++ enc (c : Int)) from ⟨hb5, hi5 gi s _ HNE.out HI4.out, HW4.out.trans hw5, HWL.out, by have := HFEW.out; have := HWD.out; simp; omega⟩)
        clear hb5 hw5 hi5
        go_wp2
        go_roundw
        case rel => exact ⟨_, _, HQ.out, by
          have e92 : enc 92 = [UInt8.ofNat 92] := by decide
          rw [← HE2.out]; simp [encs, e92]; exact trivial⟩
        case measure =>
          have i1 := HQ.out.it
          have i2 := HIT.out
          have i3 := HWD.out
          have i4 := HP.out
          simp only [World.iterPos, i1, i2]
          omega
      | false =>
        rw [hsp] at hcs hE
        have HE2 := Lib.hid hE; have HC := Lib.hid hcs
        clear hE HE hcs hsp
        go_wp2_with fail
        refine HC.out.mono ?_
        rintro e w3 ⟨rfl, hb3⟩
        have HWR := Lib.hid (wru_k w.heap.size w.heap.size c xs w3 (HB2.out.moved hb3) (Nat.le_trans HW2.out.size hb3.size) HOK.out (by have := HFEW.out; omega))
        have HI3 := Lib.hid ((hb3.block _ (blk_lt HI2.out)).trans HI2.out)
        have HW3 := Lib.hid (HW2.out.trans (hb3.mono HW2.out.size))
        clear hb3
        go_wp2_with fail
        refine HWR.out.mono ?_
        rintro e w5 ⟨kk, rfl, hb5, hw5, hi5, -⟩
        have HQ := Lib.hid (show QuIs w w5 gi s (pos + wd') (xs ++ enc (c : Int)) from ⟨hb5, hi5 gi s _ HNE.out HI3.out, HW3.out.trans hw5, HWL.out, by have := HFEW.out; have := HWD.out; simp; omega⟩)
        clear hb5 hw5 hi5
        go_wp2
        go_roundw
        case rel => exact ⟨_, _, HQ.out, by rw [← HE2.out]; simp [encs]; exact trivial⟩
        case measure =>
          have i1 := HQ.out.it
          have i2 := HIT.out
          have i3 := HWD.out
          have i4 := HP.out
          simp only [World.iterPos, i1, i2]
          omega
    · obtain rfl : pos = s.size := by omega
      have hnx : ∀ ty, (Instr.next (.pointer (some ⟨gi, 0, none⟩)) true ty).run Try.prog wr = .ok (.tuple #[.bool false]) wr := fun ty => Lib.run_next_end_at wr gi s _ ty hit hp
      have hE := HE.out
      rw [List.drop_eq_nil_of_le (by rw [bl_len]; exact Nat.le_refl _), runesB_nil] at hE
      have hxs : xs = T := by simpa [quoteC, encs] using hE
      have HST := Lib.hid (str_any w.heap.size w.heap.size xs wr HK.out.bld HK.out.below.size)
      rw [hxs] at HST
      have HBW := Lib.hid HK.out.below
      clear hE hxs HE hit
      go_wp2_with fail
      refine HST.out.mono ?_
      rintro e w3 ⟨rfl, hb3⟩
      go_wp2
      go_ret
      exact ⟨rfl, HBW.out.trans hb3⟩
end
end Go.Proofs.Ytfohmepjedehfab
