/-
  A parser in memory stays what it is where other blocks turn; the parser goes past a rune.
-/
import Derived.Test.YtdihaabjmlhemaaQc
namespace Go.Proofs.Ytdihaabjmlhemaa
set_option linter.unusedVariables false
set_option linter.unusedSimpArgs false
open Go.RowKit
theorem own_mv {S : Nat → Prop} {w w' : World} {B : Nat} {e : TypeId} {size n : Nat} {u : Value} {xs : List Value} (h : w.ownsRow B e size u n xs) (m : Mv S w w') (hS : ∀ k, u.ownBlock = some k → ¬ S k) : w'.ownsRow B e size u n xs :=
  own_moved h fun g hg => m.block g (h.lt g hg).2 (hS g hg)
theorem AtIs.mv {S : Nat → Prop} {w w' : World} {B : Nat} {v : Value} {us : List Value} {L : List Atm} (h : AtIs w B v us L) (m : Mv S w w') (hS : ∀ k, B ≤ k → ¬ S k) : AtIs w' B v us L :=
  ⟨h.len, own_mv h.row m fun k hk => hS k (h.row.lt k hk).1, fun i u a hu ha => own_mv (h.sp i u a hu ha) m fun k hk => hS k ((h.sp i u a hu ha).lt k hk).1⟩
/-- What lies in the box of a parser whose text is not at its end. -/
theorem PIs.more {w : World} {p : Nat} {l : List Pc} {v : Value} {us : List Value} {L : List Atm} (h : PIs w p l v us L) (hn : nowP l ≠ -1) : 2 ≤ l.length := by
  have h1 := h.ok.tail hn
  have h2 := h.ok.ne
  cases l with
  | nil => exact absurd rfl h2
  | cons q t =>
    cases t with
    | nil => exact h1.elim
    | cons r s => simp
theorem PIs.other {S : Nat → Prop} {w w' : World} {p : Nat} {l : List Pc} {v : Value} {us : List Value} {L : List Atm} (h : PIs w p l v us L) (m : Mv S w w') (hS : ∀ k, k ≤ p → ¬ S k) (ha : ∀ k, p < k → ¬ S k) : PIs w' p l v us L := by
  obtain ⟨pb, off, c, hb, hp, hlc, hc, hr⟩ := h.box
  refine ⟨⟨pb, off, c, (m.block _ (blk_lt hb) (hS _ (Nat.le_refl _))).trans hb, hp, hlc, hc, hr.blk fun b hb' e => ?_⟩, h.at'.mv m fun k hk => ha k (by omega), h.ok, h.small, h.few⟩
  injection e with e
  simp only at e
  subst e
  exact m.block _ hb' (hS _ (by omega))
theorem PIs.below {w w' : World} {p : Nat} {l : List Pc} {v : Value} {us : List Value} {L : List Atm} (h : PIs w p l v us L) (m : Below w.heap.size w w') : PIs w' p l v us L :=
  h.other (S := fun _ => False) (Mv.of_below m _) (fun _ _ f => f) (fun _ _ f => f)
/-- The box with other things in it. -/
theorem PIs.rest {w w' : World} {p : Nat} {l l' : List Pc} {v : Value} {us : List Value} {L : List Atm} (h : PIs w p l v us L) (m : Mv (fun k => k = p) w w') {pb off c : Nat}
    (hb : w'.heap[p]? = some (.cells #[.slice (some ⟨pb, off, none⟩) l'.length c, v] 90 (0, 0))) (hp : pb < p) (hlc : l'.length ≤ c) (hc : c ≤ maxLen) (hr : Rd w (some ⟨pb, off, none⟩) (pcC l')) (ho : OkL l') (hs : ∀ q ∈ l', q ∈ l) (hf : l'.length ≤ l.length) : PIs w' p l' v us L :=
  ⟨⟨pb, off, c, hb, hp, hlc, hc, hr.blk fun b hb' e => by injection e with e; simp only at e; subst e; exact m.block _ hb' (by omega)⟩, h.at'.mv m fun k hk => by omega, ho, fun q hq => h.small q (hs q hq), by have := h.few; omega⟩
section
set_option maxHeartbeats 1600000
set_option maxRecDepth 100000
theorem pass_any (p : Nat) (l : List Pc) (v : Value) (us : List Value) (L : List Atm) (w : World) (h : PIs w p l v us L) (hn : nowP l ≠ -1) : Calls Try.prog 54 #[.pointer (some ⟨p, 0, none⟩)] w fun e w' => e = .returned (.tuple #[]) ∧ PIs w' p l.tail v us L ∧ Mv (fun k => k = p) w w' := by
  have h2 := h.more hn
  obtain ⟨pb, off, c, hb, hp, hlc, hc, hr⟩ := h.box
  have b0 := cell_blk hb 0
  have f0 := free_blk hb 0
  simp only [List.getElem?_toArray, List.getElem?_cons_zero] at b0
  have hH := fun w' m pb off c hb hp hlc hc hr => h.rest (w' := w') (l' := l.tail) m (pb := pb) (off := off) (c := c) hb hp hlc hc hr (h.ok.tail hn) (fun q hq => List.mem_of_mem_tail hq) (by simp)
  have hr2 : Rd w (some ⟨pb, off + 2, none⟩) (pcC l.tail) := by
    obtain ⟨q, t, rfl⟩ : ∃ q t, l = q :: t := by
      cases l with
      | nil => simp at h2
      | cons q t => exact ⟨q, t, rfl⟩
    have := hr.drop 2
    simpa [pcC_cons, Addr.add] using this
  have hst := set_blk hb 0 (.slice (some ⟨pb, off + 2, none⟩) (l.length - 1) (c - 1))
  have HF := Lib.hid (hH _ ((Mv.refl (fun k => k = p) w).setCell (fun _ => rfl) (.slice (some ⟨pb, off + 2, none⟩) (l.length - 1) (c - 1)) (p := ⟨p, 0, none⟩)) pb (off + 2) (c - 1) (by rw [hst]; simp) hp (by simp; omega) (by omega) hr2)
  have HM := Lib.hid ((Mv.refl (fun k => k = p) w).setCell (fun _ => rfl) (.slice (some ⟨pb, off + 2, none⟩) (l.length - 1) (c - 1)) (p := ⟨p, 0, none⟩))
  have g1 : (1 : Int) ≤ (l.length : Int) := by omega
  have g2 : ¬ c = 1 := by omega
  have g3 : 1 ≤ l.length := by omega
  have g4 : 1 ≤ c := by omega
  clear h hb hr hr2 hst hH hn
  generalize l.length = n at *
  go_enter Try.func54, Try.ntmps54
  go_wp2
  go_end0
  exact ⟨rfl, HF.out, HM.out⟩
end
end Go.Proofs.Ytdihaabjmlhemaa
