/-
  A single rune of a class; an escape of several runes.
-/
import Derived.Test.YtfohmepjedehfabQf
namespace Go.Proofs.Ytfohmepjedehfab
set_option linter.unusedVariables false
set_option linter.unusedSimpArgs false
open Go.RowKit
theorem own_fresh {w : World} {e : TypeId} {size n : Nat} {xs : List Value} (hl : xs.length = n * size) (hn : n ≤ maxLen) : (w.alloc (.cells xs.toArray e)).ownsRow w.heap.size e size (.slice (some ⟨w.heap.size, 0, none⟩) n n) n xs :=
  ⟨hl, .inr ⟨w.heap.size, n, xs.toArray, rfl, Nat.le_refl _, heap_alloc_new _ _, Nat.le_refl _, hn, by simp [hl], by rw [List.toList_toArray, ← hl, List.take_length]⟩⟩
section
set_option maxHeartbeats 1600000
set_option maxRecDepth 100000
theorem single_any (p : Nat) (l : List Pc) (v : Value) (us : List Value) (L : List Atm) (least : Int) (w : World) (h : PIs w p l v us L) (h0 : 0 ≤ least) (hl : least ≤ 1114111) :
    Calls Try.prog 110 #[.pointer (some ⟨p, 0, none⟩), .int .i32 least] w (OutC p v us L w (singleP least l)) := by
  obtain ⟨R, hR⟩ : ∃ R, R = singleP least l := ⟨_, rfl⟩
  rw [← hR]
  unfold singleP at hR
  have hnow := now_any p l v us L w h
  have hle := h.now_le
  have H := Lib.hid h
  by_cases h92 : nowP l = 92
  · rw [if_pos h92] at hR
    have he := escaped_any p l v us L least w h (by omega) h0 hl
    rw [← hR] at he
    rw [h92] at hnow
    have HN := Lib.hid hnow; have HE := Lib.hid he; clear hnow he h hR
    go_enter Try.func110, Try.ntmps110
    go_wp2_with fail
    refine HN.out.mono ?_
    rintro e w1 ⟨rfl, rfl⟩
    go_wp2_with fail
    refine HE.out.mono ?_
    intro e w2 ho
    cases R with
    | ok r =>
      obtain ⟨c, l'⟩ := r
      obtain ⟨rfl, h2, hm2⟩ := ho
      go_wp2
      go_ret
      exact ⟨rfl, h2, hm2⟩
    | error f =>
      obtain ⟨rfl, hm2⟩ := ho
      unfold flE
      go_wp2
      exact ⟨rfl, rfl, hm2⟩
  · rw [if_neg h92] at hR
    have g92 : (nowP l == 92) = false := by rw [beq_eq_false_iff_ne]; exact h92
    have hno := must_no p l v us L w h
    by_cases h2 : least ≤ nowP l
    · have hc := outs_any (nowP l) w (by omega) hle
      cases hk : outsideP (nowP l) with
      | false =>
        rw [if_pos (by rw [decide_eq_true h2, hk]; rfl)] at hR
        have hn1 : nowP l ≠ -1 := by omega
        rw [hk] at hc
        have HPP := Lib.hid (fun W (m : Below w.heap.size w W) => pass_any p l v us L W (H.out.below m) hn1)
        have HYY := Lib.hid (fun W => must_yes p W)
        have HC := Lib.hid hc; have HN := Lib.hid hnow; have HR := Lib.hid hR; clear hc hno hnow hR hk hn1 h
        generalize nowP l = c at *
        go_enter Try.func110, Try.ntmps110
        go_wp2_with fail
        refine HN.out.mono ?_
        rintro e w1 ⟨rfl, rfl⟩
        go_wp2_with fail
        refine HC.out.mono ?_
        rintro e w3 ⟨rfl, hb3⟩
        have HB3 := Lib.hid hb3; clear hb3
        go_wp2_with fail
        refine (HYY.out _).mono ?_
        rintro e w4 ⟨rfl, rfl⟩
        go_wp2_with fail
        refine (HPP.out _ HB3.out).mono ?_
        rintro e w5 ⟨rfl, h5, hm5⟩
        go_wp2
        go_ret
        rw [HR.out]
        exact ⟨rfl, h5, (Mv.of_below HB3.out (fun k => k = p)).trans hm5 fun _ _ h => h⟩
      | true =>
        rw [if_neg (by rw [decide_eq_true h2, hk]; simp)] at hR
        rw [hk] at hc
        have HNN := Lib.hid (fun W (m : Below w.heap.size w W) => must_no p l v us L W (H.out.below m))
        have HC := Lib.hid hc; have HN := Lib.hid hnow; have HR := Lib.hid hR; clear hc hno hnow hR hk h
        generalize nowP l = c at *
        generalize atP l = a at HNN HR
        go_enter Try.func110, Try.ntmps110
        go_wp2_with fail
        refine HN.out.mono ?_
        rintro e w1 ⟨rfl, rfl⟩
        go_wp2_with fail
        refine HC.out.mono ?_
        rintro e w3 ⟨rfl, hb3⟩
        have HB3 := Lib.hid hb3; clear hb3
        go_wp2_with fail
        refine (HNN.out _ HB3.out).mono ?_
        rintro e w4 ⟨rfl, rfl⟩
        go_wp2
        rw [HR.out]
        exact ⟨rfl, rfl, Mv.of_below HB3.out (fun k => k = p)⟩
    · rw [if_neg (by rw [decide_eq_false h2]; simp)] at hR
      have HNN := Lib.hid hno; have HN := Lib.hid hnow; have HR := Lib.hid hR; clear hno hnow hR h
      generalize nowP l = c at *
      generalize atP l = a at HNN HR
      have h2' : c < least := by omega
      go_enter Try.func110, Try.ntmps110
      go_wp2_with fail
      refine HN.out.mono ?_
      rintro e w1 ⟨rfl, rfl⟩
      go_wp2_with fail
      refine HNN.out.mono ?_
      rintro e w4 ⟨rfl, rfl⟩
      go_wp2
      rw [HR.out]
      exact ⟨rfl, rfl, Mv.refl _ _⟩
theorem several_none (c : Int) (w : World) (h : manyP c = none) : Calls Try.prog 49 #[.int .i32 c] w fun e w' => e = .returned (.slice none 0 0) ∧ w' = w := by
  unfold manyP at h
  have h1 : ¬ c = 100 := by intro e; rw [if_pos e] at h; cases h
  rw [if_neg h1] at h
  have h2 : ¬ c = 119 := by intro e; rw [if_pos e] at h; cases h
  rw [if_neg h2] at h
  have h3 : ¬ c = 115 := by intro e; rw [if_pos e] at h; cases h
  have g1 : (c == 100) = false := by rw [beq_eq_false_iff_ne]; exact h1
  have g2 : (c == 119) = false := by rw [beq_eq_false_iff_ne]; exact h2
  have g3 : (c == 115) = false := by rw [beq_eq_false_iff_ne]; exact h3
  clear h h1 h2 h3
  go_enter Try.func49, Try.ntmps49
  go_wp2
  go_ret
  exact ⟨rfl, rfl⟩
theorem several_some (c : Int) (g : Spans) (w : World) (h : manyP c = some g) : Calls Try.prog 49 #[.int .i32 c] w fun e w' => e = .returned (.slice (some ⟨w.heap.size, 0, none⟩) g.length g.length) ∧ w'.ownsRow w.heap.size 128 2 (.slice (some ⟨w.heap.size, 0, none⟩) g.length g.length) g.length (spC g) ∧ RowKit.Below w.heap.size w w' := by
  have key : ∀ (xs : List Value), xs = spC g → (w.alloc (.cells xs.toArray 128)).ownsRow w.heap.size 128 2 (.slice (some ⟨w.heap.size, 0, none⟩) g.length g.length) g.length (spC g) ∧ RowKit.Below w.heap.size w (w.alloc (.cells xs.toArray 128)) := fun xs e => by
    subst e
    refine ⟨own_fresh (spC_len g) ?_, (RowKit.Below.refl _ w).alloc (Nat.le_refl _) _⟩
    unfold manyP at h
    split at h
    · injection h with h; subst h; decide
    · split at h
      · injection h with h; subst h; decide
      · split at h
        · injection h with h; subst h; decide
        · cases h
  unfold manyP at h
  split at h
  · rename_i hc; subst hc; injection h with h; subst h
    have K := Lib.hid (key _ rfl); clear key
    go_enter Try.func49, Try.ntmps49
    go_wp2
    go_ret
    exact ⟨rfl, K.out⟩
  · split at h
    · rename_i hc; subst hc; injection h with h; subst h
      have K := Lib.hid (key _ rfl); clear key
      go_enter Try.func49, Try.ntmps49
      go_wp2
      go_ret
      exact ⟨rfl, K.out⟩
    · split at h
      · rename_i hc; subst hc; injection h with h; subst h
        have K := Lib.hid (key _ rfl); clear key
        go_enter Try.func49, Try.ntmps49
        go_wp2
        go_ret
        exact ⟨rfl, K.out⟩
      · cases h
end
end Go.Proofs.Ytfohmepjedehfab
