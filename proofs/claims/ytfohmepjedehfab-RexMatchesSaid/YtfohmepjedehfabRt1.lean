/-
  Which runes an atom takes.
-/
import Derived.Test.YtfohmepjedehfabQz
namespace Go.Proofs.Ytfohmepjedehfab
set_option linter.unusedVariables false
set_option linter.unusedSimpArgs false
open Go.RowKit
theorem inSpans_drop (l : Spans) (c : Int) {k : Nat} {s : Int × Int} (h : l[k]? = some s) : inSpans (l.drop k) c = ((decide (s.1 ≤ c) && decide (c ≤ s.2)) || inSpans (l.drop (k + 1)) c) := by
  have hk := (List.getElem?_eq_some_iff.mp h)
  rw [List.drop_eq_getElem_cons hk.1, hk.2]
  simp [inSpans]
theorem spC_get : ∀ (l : Spans) (k : Nat) (s : Int × Int), l[k]? = some s → (spC l)[k * 2]? = some (.int .i32 s.1) ∧ (spC l)[k * 2 + 1]? = some (.int .i32 s.2)
  | x :: l, 0, s, h => by simp at h; subst h; exact ⟨rfl, rfl⟩
  | x :: l, k + 1, s, h => by
    simp only [List.getElem?_cons_succ] at h
    have := spC_get l k s h
    rw [show spC (x :: l) = .int .i32 x.1 :: .int .i32 x.2 :: spC l from rfl]
    rw [show (k + 1) * 2 = k * 2 + 1 + 1 from by omega, show k * 2 + 1 + 1 + 1 = (k * 2 + 1) + 1 + 1 from by omega]
    simpa using this
  | [], k, s, h => by simp at h
section
set_option maxHeartbeats 3200000
set_option maxRecDepth 100000
/-- The atom's cells lie at g from o on. -/
theorem takes_any (g o : Nat) (a : Atm) (u : Value) (c : Int) (w : World) (B : Nat) (h0 : w.cell? ⟨g, o, none⟩ = some u) (h1 : w.cell? ⟨g, o + 1, none⟩ = some (.bool a.neg)) (hu : w.ownsRow B 128 2 u a.sp.length (spC a.sp)) :
    Calls Try.prog 66 #[.pointer (some ⟨g, o, none⟩), .int .i32 c] w fun e w' => e = .returned (.bool (takesP a.sp a.neg c)) ∧ RowKit.Below w.heap.size w w' := by
  obtain ⟨A, cu, rfl, hr, hl1, hl2⟩ := own_rdg hu
  have hl : a.sp.length ≤ 9223372036854775807 := Nat.le_trans hl1 hl2
  obtain ⟨T, hT⟩ : ∃ T, takesP a.sp a.neg c = T := ⟨_, rfl⟩
  rw [hT]
  unfold takesP at hT
  have HT := Lib.hid hT; have HR := Lib.hid hr; have H0 := Lib.hid h0; have H1 := Lib.hid h1
  obtain ⟨n, hn⟩ : ∃ n, n = a.sp.length := ⟨_, rfl⟩
  rw [← hn] at h0 hl
  have HN := Lib.hid hn
  have HLT := Lib.hid (show g < w.heap.size by
    unfold World.cell? at h0
    cases hq : w.heap[g]? with
    | none => simp [hq] at h0
    | some o => exact blk_lt hq)
  clear hT hr hu h1 hn hl1 hl2
  go_enter Try.func66, Try.ntmps66
  go_wp2_with fail
  go_loopw [12] (fun s12 wr => ∃ (k : Nat), s12 = .int .i64 k ∧ k ≤ n ∧ Aside (inSpans (a.sp.drop k) c = inSpans a.sp c) ∧ Aside (RowKit.Below w.heap.size w wr)) (fun s12 _ => n - (intOf s12).toNat)
  case atStart => exact ⟨0, rfl, by omega, rfl, RowKit.Below.refl _ _⟩
  case round =>
    obtain ⟨k, rfl, hk, HI, HB⟩ := hrel
    have hc1 : wr.cell? ⟨g, o + 1, none⟩ = some (.bool a.neg) := by rw [cell_below HB.out H1.out]; exact H1.out
    have hgw : g < wr.heap.size := Nat.lt_of_lt_of_le HLT.out HB.out.size
    have hgn : g ≠ wr.heap.size := by omega
    by_cases hlt : k < n
    · have k1 : (k : Int) < (n : Int) := by omega
      obtain ⟨sq, hsq⟩ : ∃ sq, a.sp[k]? = some sq := ⟨a.sp[k]'(by have := HN.out; omega), List.getElem?_eq_getElem _⟩
      obtain ⟨q0, q1⟩ := spC_get a.sp k sq hsq
      have hI := HI.out
      rw [inSpans_drop a.sp c hsq] at hI
      have hrr := HR.out.below HB.out
      obtain ⟨b, o2, e1, z0⟩ := hrr _ _ q0
      obtain ⟨b', o2', e1', z1⟩ := hrr _ _ q1
      rw [e1] at e1'
      injection e1' with e1'; injection e1' with e2 e3
      subst e2; subst e3; subst e1
      obtain ⟨lo, hi⟩ := sq
      rw [← Nat.add_assoc] at z1
      simp only at z0 z1 hI
      have HII := Lib.hid hI
      clear q0 q1 hsq hrr hI HI
      have k0 : (0 : Int) ≤ (k : Int) := by omega
      by_cases c1 : lo ≤ c
      · by_cases c2 : c ≤ hi
        · have HTT := Lib.hid (show T = !a.neg by rw [← HT.out, ← HII.out, decide_eq_true c1, decide_eq_true c2]; simp)
          generalize a.neg = ng at *
          go_wp2
          go_ret
          rw [HTT.out]
          exact ⟨rfl, HB.out.alloc HB.out.size _⟩
        · have HI2 := Lib.hid (show inSpans (a.sp.drop (k + 1)) c = inSpans a.sp c by rw [← HII.out, decide_eq_false c2]; simp)
          go_wp2
          go_roundw
          case rel => exact ⟨k + 1, by go_num, by omega, HI2.out, (show Aside _ from HB.out.alloc HB.out.size _)⟩
          case measure => simp [intOf]; omega
      · have HI2 := Lib.hid (show inSpans (a.sp.drop (k + 1)) c = inSpans a.sp c by rw [← HII.out, decide_eq_false c1]; simp)
        go_wp2
        go_roundw
        case rel => exact ⟨k + 1, by go_num, by omega, HI2.out, (show Aside _ from HB.out.alloc HB.out.size _)⟩
        case measure => simp [intOf]; omega
    · obtain rfl : k = n := by omega
      have HTT := Lib.hid (show T = a.neg by rw [← HT.out, ← HI.out, HN.out, List.drop_length]; simp [inSpans])
      generalize a.neg = ng at *
      go_wp2
      go_ret
      rw [HTT.out]
      exact ⟨rfl, HB.out⟩
end
end Go.Proofs.Ytfohmepjedehfab
