/-
  Marks in a text with blanks around them, and how many bytes of a name stand there.
-/
import Derived.Test.YtmicbgcdnkomjaaDoorLt
import Derived.Test.YtmicbgcdnkomjaaDoorNb
import Derived.Test.YtmicbgcdnkomjaaDoorShelf
namespace Go.Proofs.YtmicbgcdnkomjaaDoor
set_option linter.unusedVariables false
set_option linter.unusedSimpArgs false
open Go.RowKit
def behT (o : Option Bs) (s : Bs) : Value := match o with
  | some r => .tuple #[.string (mkB r), .bool true]
  | none => .tuple #[.string (mkB s), .bool false]
theorem trimB (l : Bs) : Lib.trimLeftB l 32 = bareP l := by
  unfold Lib.trimLeftB bareP
  congr 1
theorem prefix_one (l : Bs) (m : UInt8) : (Lib.hasPrefix l [m] = true ∧ ∃ r, l = m :: r ∧ Lib.trimPrefix l [m] = r ∧ markP m l = some (bareP r)) ∨ (Lib.hasPrefix l [m] = false ∧ Lib.trimPrefix l [m] = l ∧ markP m l = none) := by
  cases l with
  | nil => right; exact ⟨rfl, rfl, rfl⟩
  | cons c r =>
    have hp : Lib.hasPrefix (c :: r) [m] = (m == c) := by simp [Lib.hasPrefix, List.isPrefixOf]
    by_cases h : c = m
    · subst h
      left
      refine ⟨by rw [hp]; simp, r, rfl, ?_, ?_⟩
      · unfold Lib.trimPrefix; rw [hp]; simp
      · rw [markP_cons, if_pos rfl]
    · right
      have hf : (m == c) = false := by simpa using fun e => h e.symm
      refine ⟨by rw [hp, hf], ?_, ?_⟩
      · unfold Lib.trimPrefix; rw [hp, hf]; simp
      · rw [markP_cons, if_neg h]
section
set_option maxHeartbeats 1600000
set_option maxRecDepth 100000
theorem trim_any (s : ByteArray) (w : World) : Calls Tryd.prog 90 #[.string s, .string ⟨#[32]⟩] w fun e w' => e = .returned (.string (mkB (bareP (bl s)))) ∧ w' = w := by
  have h := Tryd.strings_TrimLeft_one s 32 (by decide) w
  rw [trimB] at h
  exact h
theorem behind_any (s : ByteArray) (m : UInt8) (w : World) : Calls Tryd.prog 69 #[.string s, .string ⟨#[m]⟩] w fun e w' => e = .returned (behT (markP m (bareP (bl s))) (bareP (bl s))) ∧ w = w' := by
  have ht := fun W => trim_any s W
  obtain ⟨t, htt⟩ : ∃ t, t = mkB (bareP (bl s)) := ⟨_, rfl⟩
  have htb : bl t = bareP (bl s) := by rw [htt, bl_mk]
  simp only [← htt] at ht
  have hbare : bareP (bl t) = bl t := by rw [htb, bareP_bare]
  rw [← htb]
  have hc := fun W => Tryd.strings_CutPrefix t ⟨#[m]⟩ W
  have HT := Lib.hid ht; clear ht htt htb
  rcases prefix_one (bl t) m with ⟨h1, r, h2, h3, h4⟩ | ⟨h1, h2, h3⟩
  · rw [h4]
    have hc2 : ∀ W, Calls Tryd.prog 89 #[.string t, .string ⟨#[m]⟩] W fun e w' => e = .returned (.tuple #[.string (mkB r), .bool true]) ∧ w' = W := fun W => by
      have := hc W
      rw [show Lib.trimPrefix t.data.toList (⟨#[m]⟩ : ByteArray).data.toList = r from h3, show Lib.hasPrefix t.data.toList (⟨#[m]⟩ : ByteArray).data.toList = true from h1] at this
      exact this
    have ht2 := fun W => trim_any (mkB r) W
    simp only [bl_mk] at ht2
    have HC := Lib.hid hc2; clear hc hc2 h1 h2 h3 h4 hbare
    have HT2 := Lib.hid ht2; clear ht2
    unfold behT
    simp only
    generalize mkB r = rb at HC HT2
    generalize mkB (bareP r) = ra at HT2 ⊢
    go_enter Tryd.func69, Tryd.ntmps69
    go_wp2_with fail
    refine (HT.out _).mono ?_
    rintro e w1 ⟨rfl, rfl⟩
    go_wp2_with fail
    refine (HC.out _).mono ?_
    rintro e w1 ⟨rfl, rfl⟩
    go_wp2_with fail
    refine (HT2.out _).mono ?_
    rintro e w1 ⟨rfl, rfl⟩
    go_wp2
    go_ret2
    exact ⟨rfl, rfl⟩
  · rw [h3]
    have hc2 : ∀ W, Calls Tryd.prog 89 #[.string t, .string ⟨#[m]⟩] W fun e w' => e = .returned (.tuple #[.string t, .bool false]) ∧ w' = W := fun W => by
      have := hc W
      rw [show Lib.trimPrefix t.data.toList (⟨#[m]⟩ : ByteArray).data.toList = bl t from h2, show Lib.hasPrefix t.data.toList (⟨#[m]⟩ : ByteArray).data.toList = false from h1] at this
      rw [show (⟨(bl t).toArray⟩ : ByteArray) = t from mk_bl t] at this
      exact this
    have ht2 := fun W => trim_any t W
    simp only [hbare, mk_bl] at ht2
    have HC := Lib.hid hc2; clear hc hc2 h1 h2 h3 hbare
    have HT2 := Lib.hid ht2; clear ht2
    unfold behT
    simp only [mk_bl]
    go_enter Tryd.func69, Tryd.ntmps69
    go_wp2_with fail
    refine (HT.out _).mono ?_
    rintro e w1 ⟨rfl, rfl⟩
    go_wp2_with fail
    refine (HC.out _).mono ?_
    rintro e w1 ⟨rfl, rfl⟩
    go_wp2_with fail
    refine (HT2.out _).mono ?_
    rintro e w1 ⟨rfl, rfl⟩
    go_wp2
    go_ret2
    exact ⟨rfl, rfl⟩
theorem nb_any (s : ByteArray) (w : World) (hl : s.size ≤ 1000000) : Calls Tryd.prog 91 #[.string s] w fun e w' => e = .returned (.int .i64 (wordN (bl s) : Nat)) ∧ Below w.heap.size w w' := by
  obtain ⟨R, hR⟩ : ∃ R, R = wordN (bl s) := ⟨_, rfl⟩
  rw [← hR]
  have hst : R = 0 + wordN ((bl s).drop 0) := by rw [hR]; simp
  have HST := Lib.hid hst; clear hst hR
  go_enter Tryd.func91, Tryd.ntmps91
  go_wp2
  go_loopw [] (fun wr => ∃ pos : Nat, wr = w.iter s pos ∧ pos ≤ s.size ∧ Aside (R = pos + wordN ((bl s).drop pos))) (fun wr => s.size - wr.iterPos w.heap.size)
  case atStart => exact ⟨0, rfl, by omega, HST.out⟩
  case round =>
    obtain ⟨pos, rfl, hp, E⟩ := hrel
    by_cases hlt : pos < s.size
    · have hlt' : pos < (bl s).length := by rw [bl_len]; exact hlt
      have hd : (bl s).drop pos = s[pos]'hlt :: (bl s).drop (pos + 1) := by rw [List.drop_eq_getElem_cons hlt', get_bl s hlt]
      have hbw : RowKit.Below w.heap.size w (w.iter s (pos + 1)) := (RowKit.Below.refl _ w).alloc (Nat.le_refl _) _
      have hE : R = pos + (if letterN (s[pos]'hlt).toNat = true then wordN ((bl s).drop (pos + 1)) + 1 else 0) := by rw [E.out, hd, wordN_cons]
      clear hd
      by_cases hc : (s[pos]'hlt).toNat < 128
      · have hnx : ∀ ty, (Instr.next (.pointer (some ⟨w.heap.size, 0, none⟩)) true ty).run Tryd.prog (w.iter s pos) = _ := fun ty => run_next_ascii w s pos ty hlt hc
        generalize (s[pos]'hlt).toNat = c at hnx hc hE
        have BW := Lib.hid hbw; clear hbw E
        have hcall := inName_any c (w.iter s (pos + 1))
        cases hL : letterN c with
        | false =>
          rw [hL] at hcall hE
          have HC := Lib.hid hcall; clear hcall
          have hr : R = pos := by simpa using hE
          subst hr
          clear hE hL
          go_wp2_with (first | (go_at_call 94; refine HC.out.mono ?_; rintro e w1 ⟨rfl, rfl⟩) | fail)
          go_ret
          exact ⟨rfl, BW.out⟩
        | true =>
          rw [hL] at hcall hE
          have HC := Lib.hid hcall; clear hcall
          have hr : R = (pos + 1) + wordN ((bl s).drop (pos + 1)) := by rw [hE, if_pos rfl]; omega
          have HR := Lib.hid hr; clear hr hE hL
          go_wp2_with (first | (go_at_call 94; refine HC.out.mono ?_; rintro e w1 ⟨rfl, rfl⟩) | fail)
          go_roundw
          case rel => exact ⟨pos + 1, rfl, by omega, (show Aside _ from HR.out)⟩
          case measure => simp; omega
      · have hnx : ∀ ty, (Instr.next (.pointer (some ⟨w.heap.size, 0, none⟩)) true ty).run Tryd.prog (w.iter s pos) = _ := fun ty => run_next_any w s pos ty hlt
        obtain ⟨hr128, -⟩ := decode_high s pos hlt (by omega)
        have hbw : RowKit.Below w.heap.size w (w.iter s (pos + (Utf8.decode s pos).2)) := (RowKit.Below.refl _ w).alloc (Nat.le_refl _) _
        have hf : letterN (s[pos]'hlt).toNat = false := by cases h : letterN (s[pos]'hlt).toNat with | false => rfl | true => exact absurd (letter_lt h) hc
        rw [hf] at hE
        have hr : R = pos := by simpa using hE
        subst hr
        obtain ⟨r, hrr⟩ : ∃ r, r = (Utf8.decode s R).1 := ⟨_, rfl⟩
        obtain ⟨wd, hwd⟩ : ∃ wd, wd = (Utf8.decode s R).2 := ⟨_, rfl⟩
        rw [← hrr] at hr128
        rw [← hwd] at hbw
        rw [← hrr, ← hwd] at hnx
        have BW := Lib.hid hbw; clear hbw hrr hwd hE hf E
        have hcall := inName_any r (w.iter s (R + wd))
        rw [show letterN r = false by cases h : letterN r with | false => rfl | true => exact absurd (letter_lt h) (by omega)] at hcall
        have HC := Lib.hid hcall; clear hcall
        go_wp2_with (first | (go_at_call 94; refine HC.out.mono ?_; rintro e w1 ⟨rfl, rfl⟩) | fail)
        go_ret
        exact ⟨rfl, BW.out⟩
    · have hnx : ∀ ty, (Instr.next (.pointer (some ⟨w.heap.size, 0, none⟩)) true ty).run Tryd.prog (w.iter s pos) = _ := fun ty => run_next_end w s pos ty hlt
      obtain rfl : pos = s.size := by omega
      have hr : R = s.size := by rw [E.out, ← bl_len, List.drop_length]; rfl
      subst hr
      go_wp2
      go_ret
      exact ⟨rfl, (RowKit.Below.refl _ w).alloc (Nat.le_refl _) _⟩
end
end Go.Proofs.YtmicbgcdnkomjaaDoor
