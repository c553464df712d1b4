
/-
  labels.Get: a name's value.
-/
import Derived.Test.YtinjdlplbficiaaGreatDoorLr
namespace Go.Proofs.YtinjdlplbficiaaGreatDoor
set_option linter.unusedVariables false
set_option linter.unusedSimpArgs false
open Go.RowKit
theorem text_ne {a b : ByteArray} (h : ¬ a = b) : (a.toList == b.toList) = false := by
  rw [beq_eq_false_iff_ne, toList_bl, toList_bl]
  exact fun e => h (bl_inj e)
theorem getP_at {l : List Lb} {k : Nat} (n : ByteArray) (h : k < l.length) : getP (l.drop k) n = if l[k].1 = n then l[k].2 else getP (l.drop (k + 1)) n := by
  rw [List.drop_eq_getElem_cons h]
  unfold getP
  rw [List.find?_cons]
  by_cases e : l[k].1 = n
  · simp [e]
  · simp [e]
section
set_option maxHeartbeats 1600000
set_option maxRecDepth 100000
theorem get_any (A : Option Addr) (c : Nat) (l : List Lb) (n : ByteArray) (w : World) (hx : Rd w A (lcells l)) (hl : l.length ≤ 1000000) :
    Calls Tryz.prog 45 #[.slice A l.length c, .string n] w fun e w' => e = .returned (.string (getP l n)) ∧ Below w.heap.size w w' := by
  obtain ⟨R, hR⟩ : ∃ R, R = getP l n := ⟨_, rfl⟩
  rw [← hR]
  have hst : R = getP (l.drop 0) n := hR
  have HST := Lib.hid hst; clear hst hR
  go_enter Tryz.func45, Tryz.ntmps45
  go_wp2
  go_loopw [9] (fun s9 wr => ∃ k : Nat, s9 = .int .i64 k ∧ k ≤ l.length ∧ Aside (Below w.heap.size w wr) ∧ Aside (R = getP (l.drop k) n)) (fun s9 _ => l.length - (intOf s9).toNat)
  case atStart => exact ⟨0, rfl, by omega, Below.refl _ _, HST.out⟩
  case round =>
    obtain ⟨k, rfl, hk, BW, E⟩ := hrel
    have k0 : (0 : Int) ≤ (k : Int) := by omega
    by_cases hlt : k < l.length
    · have k1 : (k : Int) < (l.length : Int) := by omega
      obtain ⟨b, off, rfl, c0, c1⟩ := lb_at (hx.below BW.out) hlt
      have hE := E.out.trans (getP_at n hlt)
      clear E hx
      generalize l[k] = x at c0 c1 hE
      obtain ⟨x1, x2⟩ := x
      simp only at c0 c1 hE
      have HBW := Lib.hid (show Below w.heap.size w (wr.alloc (.cells #[.string x1, .string x2] 33)) from BW.out.alloc BW.out.size _)
      by_cases he : x1 = n
      · subst he
        rw [if_pos rfl] at hE
        subst hE
        go_wp2
        go_ret
        exact ⟨rfl, HBW.out⟩
      · rw [if_neg he] at hE
        have HE := Lib.hid hE; clear hE
        have q : (x1.toList == n.toList) = false := text_ne he
        have HQ := Lib.hid he; clear he
        go_wp2
        go_roundw
        case rel => exact ⟨k + 1, by go_num, by omega, (show Aside _ from HBW.out), (show Aside _ from HE.out)⟩
        case measure => simp [intOf]; omega
    · obtain rfl : k = l.length := by omega
      have hE := E.out
      rw [List.drop_length] at hE
      have hE : R = ⟨#[]⟩ := hE
      subst hE
      clear E
      go_wp2
      go_ret
      exact ⟨rfl, BW.out⟩
end
end Go.Proofs.YtinjdlplbficiaaGreatDoor
