/-
  Names: the program's own way, rune by rune. Names: the program's own Named, rune by rune, tells just what a name is by its bytes.
-/
import Derived.Laws.RangeAny
import Derived.Test.YtjgappbomohlcaaGreatDoorKGen
import Derived.Test.YtjgappbomohlcaaGreatDoorKLb
import Derived.Test.YtjgappbomohlcaaGreatDoorK01
namespace Go.Proofs.YtjgappbomohlcaaGreatDoor
section
set_option linter.unusedVariables false
set_option linter.unusedSimpArgs false
section
set_option linter.unusedVariables false
set_option linter.unusedSimpArgs false
open Go.RowKit
section
set_option maxHeartbeats 800000
set_option maxRecDepth 100000
theorem isDigit_any (r : Nat) (w : World) : Calls Tryz.prog 132 #[.int .i32 (r : Int)] w fun e w' => e = .returned (.bool (digitN r)) ∧ w = w' := by
  by_cases h1 : 48 ≤ r
  · by_cases h2 : r ≤ 57
    · have e : digitN r = true := by simp [digitN, h1, h2]
      rw [e]
      have h1' : (48 : Int) ≤ r := by omega
      have h2' : (r : Int) ≤ 57 := by omega
      go_enter Tryz.func132, Tryz.ntmps132
      go_wp2
      go_ret
      exact ⟨rfl, rfl⟩
    · have e : digitN r = false := by simp [digitN, h1, h2]
      rw [e]
      have h1' : (48 : Int) ≤ r := by omega
      have h2' : ¬ (r : Int) ≤ 57 := by omega
      go_enter Tryz.func132, Tryz.ntmps132
      go_wp2
      go_ret
      exact ⟨rfl, rfl⟩
  · have e : digitN r = false := by simp [digitN, h1]
    rw [e]
    have h1' : ¬ (48 : Int) ≤ r := by omega
    go_enter Tryz.func132, Tryz.ntmps132
    go_wp2
    go_ret
    exact ⟨rfl, rfl⟩
theorem inName_any (r : Nat) (w : World) : Calls Tryz.prog 131 #[.int .i32 (r : Int)] w fun e w' => e = .returned (.bool (letterN r)) ∧ w = w' := by
  have hd := isDigit_any r w
  obtain ⟨D, hD⟩ : ∃ D, D = digitN r := ⟨_, rfl⟩
  have e : letterN r = (decide (r = 95) || (decide (97 ≤ r) && decide (r ≤ 122)) || (decide (65 ≤ r) && decide (r ≤ 90)) || D) := by rw [hD]; simp [letterN, digitN, Bool.beq_eq_decide_eq]
  rw [← hD] at hd
  rw [e]
  have HH := Lib.hid hd; clear hd hD e
  have key : ∀ b1 b2 b3 b4 b5 : Bool, decide (r = 95) = b1 → decide (97 ≤ r) = b2 → decide (r ≤ 122) = b3 → decide (65 ≤ r) = b4 → decide (r ≤ 90) = b5 →
      Calls Tryz.prog 131 #[.int .i32 (r : Int)] w fun e w' => e = .returned (.bool (b1 || (b2 && b3) || (b4 && b5) || D)) ∧ w = w' := by
    intro b1 b2 b3 b4 b5 h1 h2 h3 h4 h5
    have h1' : ((r : Int) == 95) = b1 := by rw [← h1, Bool.beq_eq_decide_eq]; exact decide_eq_decide.2 (by omega)
    have h2' : decide ((97 : Int) ≤ r) = b2 := by rw [← h2]; exact decide_eq_decide.2 (by omega)
    have h3' : decide ((r : Int) ≤ 122) = b3 := by rw [← h3]; exact decide_eq_decide.2 (by omega)
    have h4' : decide ((65 : Int) ≤ r) = b4 := by rw [← h4]; exact decide_eq_decide.2 (by omega)
    have h5' : decide ((r : Int) ≤ 90) = b5 := by rw [← h5]; exact decide_eq_decide.2 (by omega)
    clear h1 h2 h3 h4 h5
    cases b1 <;> cases b2 <;> cases b3 <;> cases b4 <;> cases b5 <;> first | (exfalso; simp only [beq_iff_eq, beq_eq_false_iff_ne, decide_eq_true_eq, decide_eq_false_iff_not, ne_eq] at h1' h2' h3' h4' h5'; omega) | (
      go_enter Tryz.func131, Tryz.ntmps131
      go_wp2_with (first | (go_at_call 132; refine HH.out.mono ?_; rintro e w1 ⟨rfl, rfl⟩) | fail)
      go_ret
      refine ⟨?_, rfl⟩
      first | rfl | (show Ending.returned (Value.bool _) = _; simp [h1', h2', h3', h4', h5']))
  exact key _ _ _ _ _ rfl rfl rfl rfl rfl
end
end
section
set_option linter.unusedVariables false
set_option linter.unusedSimpArgs false
open Go.RowKit
theorem letter_lt {c : Nat} (h : letterN c = true) : c < 128 := by
  simp [letterN] at h; omega
section
set_option maxHeartbeats 800000
set_option maxRecDepth 100000
theorem named_any (s : ByteArray) (w : World) : Calls Tryz.prog 108 #[.string s] w fun e w' => e = .returned (.bool (namedP (bl s))) ∧ Below w.heap.size w w' := by
  have hl := bl_len s
  by_cases hz : s.size = 0
  · obtain rfl := size_zero hz
    clear hl hz
    have e : namedP (bl ⟨#[]⟩) = false := rfl
    rw [e]
    clear e
    go_enter Tryz.func108, Tryz.ntmps108
    go_wp2
    go_ret
    exact ⟨rfl, Below.refl _ _⟩
  · obtain ⟨e1, e2⟩ := ne_empty hz
    by_cases hm : s.size ≤ 64
    · have hm' : ¬ (64 : Int) < (s.size : Int) := by omega
      have HL := Lib.hid hl
      have HZ := Lib.hid hz
      clear hl hz
      obtain ⟨R, hR⟩ : ∃ R, R = namedP (bl s) := ⟨_, rfl⟩
      rw [← hR]
      have HR := Lib.hid hR; clear hR
      go_enter Tryz.func108, Tryz.ntmps108
      go_wp2
      go_loopw [] (fun wr => ∃ pos : Nat, wr = w.iter s pos ∧ pos ≤ s.size ∧ Aside (∀ j, j < pos → letterN (((bl s).getD j 0).toNat) = true) ∧ Aside (0 < pos → digitN ((bl s).headD 0).toNat = false)) (fun wr => s.size - wr.iterPos w.heap.size)
      case atStart => exact ⟨0, rfl, by omega, fun j hj => absurd hj (Nat.not_lt_zero _), fun h => absurd h (Nat.lt_irrefl _)⟩
      case round =>
        obtain ⟨pos, rfl, hp, A1, A2⟩ := hrel
        by_cases hlt : pos < s.size
        · have hgd : (bl s).getD pos 0 = s[pos]'hlt := by rw [get_bl s hlt]; simp [List.getD, bl_len, hlt]
          have hbw : RowKit.Below w.heap.size w (w.iter s (pos + 1)) := (RowKit.Below.refl _ w).alloc (Nat.le_refl _) _
          have stop : letterN ((bl s).getD pos 0).toNat = false → R = false := fun h => by
            rw [HR.out]; unfold namedP
            have : (bl s).all (fun c => letterN c.toNat) = false := by
              rw [List.all_eq_false]
              have hlt' : pos < (bl s).length := by rw [bl_len]; exact hlt
              refine ⟨(bl s)[pos], List.getElem_mem hlt', ?_⟩
              rw [List.getD, List.getElem?_eq_getElem hlt'] at h
              simpa using h
            rw [this]; simp
          have stop0 : pos = 0 → digitN ((bl s).getD pos 0).toNat = true → R = false := fun h0 h => by
            rw [HR.out]; unfold namedP
            subst h0
            have : (bl s).headD 0 = (bl s).getD 0 0 := by cases bl s <;> rfl
            rw [this, h]; simp
          rw [hgd] at stop stop0
          by_cases hc : (s[pos]'hlt).toNat < 128
          · have hnx : ∀ ty, (Instr.next (.pointer (some ⟨w.heap.size, 0, none⟩)) true ty).run Tryz.prog (w.iter s pos) = _ := fun ty => run_next_ascii w s pos ty hlt hc
            obtain ⟨c, hcc⟩ : ∃ c, c = (s[pos]'hlt).toNat := ⟨_, rfl⟩
            rw [← hcc] at hnx stop stop0 hc
            have C := Lib.hid hcc; clear hcc
            have G := Lib.hid hgd; clear hgd
            have S0 := Lib.hid stop0; clear stop0
            have ST := Lib.hid stop; clear stop
            have BW := Lib.hid hbw; clear hbw
            cases hL : letterN c with
            | false =>
              have hr := ST.out hL
              subst hr
              have hcall := inName_any c (w.iter s (pos + 1))
              rw [hL] at hcall
              clear hL
              have HC := Lib.hid hcall; clear hcall
              go_wp2_with (first | (go_at_call 131; refine HC.out.mono ?_; rintro e w1 ⟨rfl, rfl⟩) | fail)
              go_ret
              exact ⟨rfl, BW.out⟩
            | true =>
              have hcall := inName_any c (w.iter s (pos + 1))
              rw [hL] at hcall
              have HLT := Lib.hid hL; clear hL
              have HC := Lib.hid hcall; clear hcall
              have hdc := isDigit_any c (w.iter s (pos + 1))
              by_cases h0 : pos = 0
              · subst h0
                cases hD : digitN c with
                | true =>
                  have hr := S0.out rfl hD
                  subst hr
                  rw [hD] at hdc
                  clear hD
                  have HD := Lib.hid hdc; clear hdc
                  go_wp2_with (first | (go_at_call 131; refine HC.out.mono ?_; rintro e w1 ⟨rfl, rfl⟩) | (go_at_call 132; refine HD.out.mono ?_; rintro e w1 ⟨rfl, rfl⟩) | fail)
                  go_ret
                  exact ⟨rfl, BW.out⟩
                | false =>
                  rw [hD] at hdc
                  have HDF := Lib.hid hD; clear hD
                  have HD := Lib.hid hdc; clear hdc
                  go_wp2_with (first | (go_at_call 131; refine HC.out.mono ?_; rintro e w1 ⟨rfl, rfl⟩) | (go_at_call 132; refine HD.out.mono ?_; rintro e w1 ⟨rfl, rfl⟩) | fail)
                  go_roundw
                  case rel =>
                    refine ⟨1, rfl, by omega, (show Aside _ from fun j hj => ?_), (show Aside _ from fun _ => ?_)⟩
                    · obtain rfl : j = 0 := by omega
                      rw [G.out, ← C.out]; exact HLT.out
                    · have : (bl s).headD 0 = (bl s).getD 0 0 := by cases bl s <;> rfl
                      rw [this, G.out, ← C.out]; exact HDF.out
                  case measure => simp; omega
              · have h0z : ((pos : Int) == 0) = false := beq_eq_false_iff_ne.2 (by omega)
                clear hdc
                go_wp2_with (first | (go_at_call 131; refine HC.out.mono ?_; rintro e w1 ⟨rfl, rfl⟩) | fail)
                go_roundw
                case rel =>
                  refine ⟨pos + 1, rfl, by omega, (show Aside _ from fun j hj => ?_), (show Aside _ from fun _ => A2.out (by omega))⟩
                  by_cases hj' : j = pos
                  · subst hj'; rw [G.out, ← C.out]; exact HLT.out
                  · exact A1.out j (by omega)
                case measure => simp; omega
          · have hnx : ∀ ty, (Instr.next (.pointer (some ⟨w.heap.size, 0, none⟩)) true ty).run Tryz.prog (w.iter s pos) = _ := fun ty => run_next_any w s pos ty hlt
            obtain ⟨hr128, -⟩ := decode_high s pos hlt (by omega)
            have hbw : RowKit.Below w.heap.size w (w.iter s (pos + (Utf8.decode s pos).2)) := (RowKit.Below.refl _ w).alloc (Nat.le_refl _) _
            have hr := stop (by cases h : letterN (s[pos]'hlt).toNat with | false => rfl | true => exact absurd (letter_lt h) hc)
            subst hr
            clear stop stop0
            obtain ⟨r, hrr⟩ : ∃ r, r = (Utf8.decode s pos).1 := ⟨_, rfl⟩
            obtain ⟨wd, hwd⟩ : ∃ wd, wd = (Utf8.decode s pos).2 := ⟨_, rfl⟩
            rw [← hrr] at hr128
            rw [← hwd] at hbw
            rw [← hrr, ← hwd] at hnx
            have BW := Lib.hid hbw; clear hbw hrr hwd hgd
            have hcall := inName_any r (w.iter s (pos + wd))
            rw [show letterN r = false by cases h : letterN r with | false => rfl | true => exact absurd (letter_lt h) (by omega)] at hcall
            have HC := Lib.hid hcall; clear hcall
            go_wp2_with (first | (go_at_call 131; refine HC.out.mono ?_; rintro e w1 ⟨rfl, rfl⟩) | fail)
            go_ret
            exact ⟨rfl, BW.out⟩
        · have hnx : ∀ ty, (Instr.next (.pointer (some ⟨w.heap.size, 0, none⟩)) true ty).run Tryz.prog (w.iter s pos) = _ := fun ty => run_next_end w s pos ty hlt
          obtain rfl : pos = s.size := by omega
          have hr : R = true := by
            rw [HR.out]
            have hpos : 0 < s.size := by have := HZ.out; omega
            have a2 := A2.out hpos
            have hall : (bl s).all (fun c => letterN c.toNat) = true := by
              rw [List.all_eq_true]
              intro x hx
              obtain ⟨j, hj, rfl⟩ := List.mem_iff_getElem.1 hx
              have hj' : j < s.size := by rw [← bl_len]; exact hj
              have := A1.out j hj'
              rwa [List.getD, List.getElem?_eq_getElem hj] at this
            unfold namedP
            rw [hall, a2, bl_len]
            have h1 : 1 ≤ s.size := hpos
            simp [h1, hm]
          subst hr
          go_wp2
          go_ret
          exact ⟨rfl, (RowKit.Below.refl _ w).alloc (Nat.le_refl _) _⟩
    · have hm' : (64 : Int) < (s.size : Int) := by omega
      have e : namedP (bl s) = false := by unfold namedP; rw [hl]; simp [hm]
      rw [e]
      clear e hl hz
      go_enter Tryz.func108, Tryz.ntmps108
      go_wp2
      go_ret
      exact ⟨rfl, Below.refl _ _⟩
end
end
end
end Go.Proofs.YtjgappbomohlcaaGreatDoor
