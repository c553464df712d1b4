/-
  The place of the first point that is not below a time: by halves, and the plain answers' own.
-/
import Derived.Shelf.Abstract
import Derived.Test.YtinjdlplbficiaaPt1
namespace Go.Proofs.Ytinjdlplbficiaa
set_option linter.unusedVariables false
set_option linter.unusedSimpArgs false
open Go.RowKit
/-- A function value tells of a point, in whatever world of a class, what p says, and turns nothing that was there. -/
def TellsP (g : Nat) (lb : Array Value) (p : Pt → Bool) (S : World → Prop) : Prop :=
  ∀ (W : World) (x : Pt), S W → Calls Try.prog g (#[aggPt x] ++ lb) W fun e w' => e = .returned (.bool (p x)) ∧ Below W.heap.size W w'
/-- All that p says stand ahead of those that it does not. -/
def MonoP (p : Pt → Bool) (l : List Pt) : Prop := ∀ i j, (hi : i < l.length) → (hj : j < l.length) → i ≤ j → p l[j] = true → p l[i] = true
theorem find_of : ∀ {l : List Pt} {t : Int} {n : Nat}, (∀ j, (h : j < l.length) → j < n → l[j].1 < t) → (∀ h : n < l.length, ¬ l[n].1 < t) → n ≤ l.length → findP l t = n
  | [], t, n, _, _, h => by rw [find_nil]; simp at h; exact h.symm
  | x :: r, t, 0, h1, h2, h => by have := h2 (by simp); exact find_ge r (by simpa using this)
  | x :: r, t, n + 1, h1, h2, h => by
    rw [find_lt r (by have := h1 0 (by simp) (by omega); simpa using this), find_of (n := n) (fun j hj hn => by have := h1 (j + 1) (by simpa using hj) (by omega); simpa using this) (fun hn => by have := h2 (by simpa using hn); simpa using this) (by simpa using h)]
theorem isAt_of {l : List Pt} {t : Int} {n : Nat} (h : findP l t = n) (hn : n < l.length) : isAt l t = decide (l[n].1 = t) := by
  unfold isAt; rw [h, List.getElem?_eq_getElem hn]
theorem isAt_end {l : List Pt} {t : Int} (h : findP l t = l.length) : isAt l t = false := by
  unfold isAt; rw [h, List.getElem?_eq_none (Nat.le_refl _)]
theorem mono_srt {l : List Pt} (h : Srt l) (t : Int) : MonoP (fun p => decide (p.1 < t)) l := by
  intro i j hi hj hij hp
  simp only [decide_eq_true_eq] at hp ⊢
  by_cases e : i = j
  · subst e; exact hp
  · have := List.pairwise_iff_getElem.1 h i j hi hj (by omega); omega
section
set_option maxHeartbeats 1600000
set_option maxRecDepth 100000
theorem find1_tells (ab : Nat) (t : Int) : TellsP 44 #[.pointer (some ⟨ab, 0, none⟩)] (fun p => decide (p.1 < t)) (fun W => W.heap[ab]? = some (.cells #[.int .i64 t] 2 (0, 0))) := by
  rintro W x hc
  obtain ⟨x1, x2, x3⟩ := x
  simp only [aggPt]
  have hbw := (RowKit.Below.refl W.heap.size W).alloc (Nat.le_refl _) (.cells #[.int .i64 x1, .int .u64 x2, .int .u64 x3] 25)
  have HBW := Lib.hid hbw; clear hbw
  have hd := cell_blk ((Below.heap_alloc W (.cells #[.int .i64 x1, .int .u64 x2, .int .u64 x3] 25) _ (blk_lt hc)).trans hc) 0
  simp only [List.getElem?_toArray, List.getElem?_cons_zero] at hd
  clear hc
  by_cases h : x1 < t
  all_goals
    go_enter Try.func44, Try.ntmps44
    go_wp2
    go_ret
    exact ⟨by simp [h], HBW.out⟩
theorem first_any (A : Option Addr) (c : Nat) (l : List Pt) (w : World) (g : Nat) (lb : Array Value) (p : Pt → Bool) (eg : ∀ args w, (callFunc g args).run Try.prog w = .ok (.enter g args) w)
    (hp : TellsP g lb p (fun W => RowKit.Below w.heap.size w W)) (hx : Rd w A (pcells l)) (hl : l.length ≤ 2000) :
    Calls Try.prog 43 #[.slice A l.length c, .func (.func g) #[] lb] w fun e w' => (∃ n : Nat, e = .returned (.int .i64 (n : Int)) ∧ n ≤ l.length ∧ (MonoP p l → (∀ j, (h : j < l.length) → j < n → p l[j] = true) ∧ ∀ h : n < l.length, p l[n] = false)) ∧ RowKit.Below w.heap.size w w' := by
  have HP := Lib.hid hp; clear hp
  go_enter Try.func43, Try.ntmps43
  go_wp2
  go_loopw [5, 6] (fun s5 s6 wr => ∃ f d : Nat, s5 = .int .i64 (f : Int) ∧ s6 = .int .i64 ((f + d : Nat) : Int) ∧ f + d ≤ l.length ∧ Aside (RowKit.Below w.heap.size w wr) ∧ Aside (MonoP p l → (∀ j, (h : j < l.length) → j < f → p l[j] = true) ∧ ∀ j, (h : j < l.length) → f + d ≤ j → p l[j] = false)) (fun s5 s6 _ => (intOf s6 - intOf s5).toNat)
  case atStart => exact ⟨0, l.length, rfl, by simp, by omega, RowKit.Below.refl _ _, fun _ => ⟨fun j _ hj => absurd hj (Nat.not_lt_zero _), fun j h hj => by omega⟩⟩
  case round =>
    obtain ⟨f, d, rfl, rfl, hfd, BW, E⟩ := hrel
    by_cases hd : 0 < d
    · have h1 : (f : Int) < ((f + d : Nat) : Int) := by omega
      obtain ⟨m, hm⟩ : ∃ m : Nat, m = f + d / 2 := ⟨_, rfl⟩
      have hml : m < l.length := by omega
      have hrd := hx.below BW.out
      obtain ⟨b, off, rfl, c0, c1, c2⟩ := pt_at hrd hml
      have hcall := HP.out wr l[m] BW.out
      have HML := Lib.hid hml
      have hE := E.out
      have m0 : (0 : Int) ≤ (m : Int) := by omega
      have m1 : (m : Int) < (l.length : Int) := by omega
      have ht : p l[m] = true → MonoP p l → (∀ j, (h : j < l.length) → j < m + 1 → p l[j] = true) ∧ ∀ j, (h : j < l.length) → m + 1 + (f + d - (m + 1)) ≤ j → p l[j] = false := fun hq hmo => ⟨fun j hj hjm => hmo j m hj hml (by omega) hq, fun j hj hjm => (hE hmo).2 j hj (by omega)⟩
      have hf : p l[m] = false → MonoP p l → (∀ j, (h : j < l.length) → j < f → p l[j] = true) ∧ ∀ j, (h : j < l.length) → f + d / 2 ≤ j → p l[j] = false := fun hq hmo => ⟨fun j hj hjm => (hE hmo).1 j hj hjm, fun j hj hjm => by
        cases hpj : p l[j] with
        | false => rfl
        | true => exact Bool.noConfusion (hq.symm.trans (hmo m j hml hj (by omega) hpj))⟩
      clear hE E hrd
      generalize l[m] = y at c0 c1 c2 hcall ht hf
      have HBW := Lib.hid BW.out; clear BW
      subst hm
      obtain ⟨y1, y2, y3⟩ := y
      unfold aggPt at hcall
      simp only at c0 c1 c2 hcall
      generalize hq : p (y1, y2, y3) = q at hcall ht hf
      have HC := Lib.hid hcall; clear hcall hq
      have HT := Lib.hid ht; have HF := Lib.hid hf
      clear ht hf
      cases q with
      | true =>
        go_wp2_with (first | (go_at_fn g; refine HC.out.mono ?_; rintro e w1 ⟨rfl, hb⟩) | fail)
        go_roundw
        case rel =>
          refine ⟨f + d / 2 + 1, f + d - (f + d / 2 + 1), ?_, ?_, by omega, (show Aside _ from HBW.out.trans (hb.mono HBW.out.size)), (show Aside _ from HT.out trivial)⟩
          · congr 1; omega
          · congr 1; omega
        case measure => simp [intOf]; omega
      | false =>
        go_wp2_with (first | (go_at_fn g; refine HC.out.mono ?_; rintro e w1 ⟨rfl, hb⟩) | fail)
        go_roundw
        case rel =>
          refine ⟨f, d / 2, rfl, ?_, by omega, (show Aside _ from HBW.out.trans (hb.mono HBW.out.size)), (show Aside _ from HF.out trivial)⟩
          congr 1; omega
        case measure => simp [intOf]; omega
    · obtain rfl : d = 0 := by omega
      have HE := Lib.hid E.out
      have HBW := Lib.hid BW.out
      clear E BW
      go_wp2
      go_ret
      exact ⟨⟨f, rfl, by omega, fun h => ⟨(HE.out h).1, fun hf => (HE.out h).2 f hf (by omega)⟩⟩, HBW.out⟩
end
end Go.Proofs.Ytinjdlplbficiaa
