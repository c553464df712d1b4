/-
  Labels in memory of their own (slices.Clone), and the labels of whose name a function value says so.
-/
import Derived.Test.YtgibcfeioljofaaGreatDoorMa
import Derived.Test.YtgibcfeioljofaaGreatDoorPs
namespace Go.Proofs.YtgibcfeioljofaaGreatDoor
set_option linter.unusedVariables false
set_option linter.unusedSimpArgs false
open Go.RowKit
/-- A function value tells of a text, in whatever world of a class, what q says, and turns nothing that was there. -/
def TellsT (g : Nat) (lb : Array Value) (q : ByteArray → Bool) (S : World → Prop) : Prop :=
  ∀ (W : World) (t : ByteArray), S W → Calls Tryz.prog g (#[.string t] ++ lb) W fun e w' => e = .returned (.bool (q t)) ∧ Below W.heap.size W w'
section
set_option maxHeartbeats 1600000
set_option maxRecDepth 100000
theorem clone_any (A : Option Addr) (c : Nat) (l : List Lb) (w : World) (hx : Rd w A (lcells l)) (hl : l.length ≤ 1000000) :
    Calls Tryz.prog 63 #[.slice A l.length c] w fun e w' => ∃ A' c', e = .returned (.slice A' l.length c') ∧ w'.ownsRow w.heap.size 26 2 (.slice A' l.length c') l.length (lcells l) ∧ Below w.heap.size w w' := by
  obtain ⟨i0, hi, hz0, hz1, hz2⟩ := info_parts infoLb
  cases A with
  | none =>
    obtain rfl := lb_nil hx
    have heq := fun (W : World) => Go.Lib.run_eql_slice_nil (P := Tryz.prog) W 23 26 none 0 c 0 0 Tryz.underlying23
    simp only [Option.isNone_none, Option.isNone_some] at heq
    go_enter Tryz.func63, Tryz.ntmps63
    go_wp2
    go_ret
    exact ⟨none, 0, rfl, World.ownsRow_nil _ _ _ _, Below.refl _ _⟩
  | some ad =>
    have hown : (w.alloc (.cells #[] 26)).ownsRow w.heap.size 26 2 (.slice (some ⟨w.heap.size, 0, none⟩) 0 0) 0 [] := own_whole (l := []) (Nat.le_refl _) (by decide) (heap_alloc_new w _)
    have hbw : RowKit.Below w.heap.size w (w.alloc (.cells #[] 26)) := (RowKit.Below.refl _ w).alloc (Nat.le_refl _) _
    have HBW := Lib.hid hbw; clear hbw
    have hx1 := hx.alloc (.cells #[] 26)
    have HX := Lib.hid hx1; clear hx hx1
    have HO := Lib.hid hown; clear hown
    have heq := fun (W : World) => Go.Lib.run_eql_slice_nil (P := Tryz.prog) W 23 26 (some ad) l.length c 0 0 Tryz.underlying23
    simp only [Option.isNone_none, Option.isNone_some] at heq
    go_enter Tryz.func63, Tryz.ntmps63
    go_wp2_with (first
      | (at_builtin; go_must (refine wpList_append_own _ rfl _ _ 23 rfl w.heap.size 26 i0 (.agg #[.string ⟨#[]⟩, .string ⟨#[]⟩]) 2 32 Tryz.underlying23 hi hz0 hz1 hz2 rfl (by decide) _ 0 [] rfl HO.out ad l.length c (lcells l) rfl (lcells_len l) (rd_cells HX.out) (lcells_one' l) (by unfold maxLen; omega) (by omega) (by simp) ?_; intro v3 w3 own3 grow3 _))
      | fail)
    have hb3 : RowKit.Below w.heap.size w w3 := HBW.out.grown grow3 (by simp) (fun k h => (HO.out.lt k h).1)
    rw [Nat.zero_add, List.nil_append] at own3
    have HB3 := Lib.hid hb3; clear hb3 grow3
    have HO3 := Lib.hid own3; clear own3
    go_wp2
    go_ret
    obtain ⟨A', c', e, -⟩ := own_rdL HO3.out
    subst e
    exact ⟨A', c', rfl, HO3.out, HB3.out⟩
theorem kept1_tells (g : Nat) (lb : Array Value) (q : ByteArray → Bool) (S : World → Prop) (ab : Nat) (eg : ∀ args w, (callFunc g args).run Tryz.prog w = .ok (.enter g args) w)
    (hq : TellsT g lb q S) (hS : ∀ W W', S W → Below W.heap.size W W' → S W') :
    Tells 64 #[.pointer (some ⟨ab, 0, none⟩)] (fun x => !q x.1) (fun W => W.heap[ab]? = some (.cells #[.func (.func g) #[] lb] 53 (0, 0)) ∧ S W) := by
  rintro W x ⟨hc, hs⟩
  obtain ⟨x1, x2⟩ := x
  simp only
  have hbw : RowKit.Below W.heap.size W (W.alloc (.cells #[.string x1, .string x2] 26)) := (RowKit.Below.refl _ W).alloc (Nat.le_refl _) _
  have hcall := hq _ x1 (hS _ _ hs hbw)
  have HBW := Lib.hid hbw; clear hbw
  have hd := cell_blk ((Below.heap_alloc W (.cells #[.string x1, .string x2] 26) _ (blk_lt hc)).trans hc) 0
  simp only [List.getElem?_toArray, List.getElem?_cons_zero] at hd
  have HC := Lib.hid hcall; clear hcall hc
  generalize q x1 = b at HC
  cases b
  all_goals
    go_enter Tryz.func64, Tryz.ntmps64
    go_wp2_with (first | (go_at_fn g; refine HC.out.mono ?_; rintro e w1 ⟨rfl, hb⟩) | fail)
    go_ret
    exact ⟨rfl, HBW.out.trans (hb.mono HBW.out.size)⟩
/-- The labels of whose name q says so. -/
def keepP (q : ByteArray → Bool) (l : List Lb) : List Lb := l.filter fun x => q x.1
theorem drop_keep (q : ByteArray → Bool) (l : List Lb) : dropP (fun x => !q x.1) l = keepP q l := by
  unfold dropP keepP; congr 1; funext x; simp
theorem kept_any (A : Option Addr) (c : Nat) (l : List Lb) (w : World) (g : Nat) (lb : Array Value) (q : ByteArray → Bool) (eg : ∀ args w, (callFunc g args).run Tryz.prog w = .ok (.enter g args) w)
    (hq : TellsT g lb q (fun W => RowKit.Below w.heap.size w W)) (hx : Rd w A (lcells l)) (hl : l.length ≤ 1000000) :
    Calls Tryz.prog 31 #[.slice A l.length c, .func (.func g) #[] lb] w fun e w' => ∃ A' c', e = .returned (.slice A' (keepP q l).length c') ∧ w'.ownsRow w.heap.size 26 2 (.slice A' (keepP q l).length c') (keepP q l).length (lcells (keepP q l)) ∧ RowKit.Below w.heap.size w w' := by
  have hmf : ∀ (fn : Fn) (first cap : Array Value) (w : World), (Instr.makeFunc fn first cap).run Tryz.prog w = .ok (.func fn first cap) w := fun _ _ _ _ => rfl
  have hb0 : RowKit.Below w.heap.size w (w.alloc (.cells #[.func (.func g) #[] lb] 53)) := (RowKit.Below.refl _ w).alloc (Nat.le_refl _) _
  have hcl := clone_any A c l _ (hx.alloc (.cells #[.func (.func g) #[] lb] 53)) hl
  have hbox := heap_alloc_new w (.cells #[.func (.func g) #[] lb] 53)
  have htl := kept1_tells g lb q (fun W => RowKit.Below w.heap.size w W) w.heap.size eg hq (fun W W' h h' => h.trans (h'.mono h.size))
  have egk : ∀ args w, (callFunc 64 args).run Tryz.prog w = .ok (.enter 64 args) w := enters_of Tryz.func64 (by kernel_rfl) rfl
  have hsz := World.size_alloc w (.cells #[.func (.func g) #[] lb] 53)
  have HB0 := Lib.hid hb0; have HCL := Lib.hid hcl; have HBOX := Lib.hid hbox; have HTL := Lib.hid htl; have HEG := Lib.hid egk; have HSZ := Lib.hid hsz
  clear hb0 hcl hbox htl egk hq eg hsz
  go_enter Tryz.func31, Tryz.ntmps31
  go_wp2_with fail
  refine HCL.out.mono ?_
  rintro e w2 ⟨A2, c2, rfl, ho2, hb2⟩
  have hB2 : RowKit.Below w.heap.size w w2 := HB0.out.trans (hb2.mono (by have := HSZ.out; omega))
  have hbx2 : w2.heap[w.heap.size]? = some (.cells #[.func (.func g) #[] lb] 53 (0, 0)) := (hb2.block _ (by have := HSZ.out; omega)).trans HBOX.out
  have hdel : Calls Tryz.prog 53 #[.slice A2 l.length c2, .func (.func 64) #[] #[.pointer (some ⟨w.heap.size, 0, none⟩)]] w2 fun e w' => ∃ A' c', e = .returned (.slice A' (keepP q l).length c') ∧ w'.ownsRow w.heap.size 26 2 (.slice A' (keepP q l).length c') (keepP q l).length (lcells (keepP q l)) ∧ RowKit.Below w.heap.size w w' := by
    rcases ho2.2 with ⟨e2, h0⟩ | ⟨g2, cap, cur, e2, hBg, hg, -⟩
    · injection e2 with e1 _ e3
      subst e1
      subst e3
      obtain rfl : l = [] := List.eq_nil_of_length_eq_zero h0
      refine (delf_none none 0 w2 64 _ _ _ HEG.out HTL.out (fun W hb => ⟨(hb.block _ (blk_lt hbx2)).trans hbx2, hB2.trans (hb.mono hB2.size)⟩)).mono ?_
      rintro e w' ⟨rfl, hb⟩
      exact ⟨none, 0, rfl, World.ownsRow_nil _ _ _ _, hB2.trans (hb.mono hB2.size)⟩
    · injection e2 with e1 _ _
      subst e1
      have hgt : w.heap.size < g2 := by have := HSZ.out; omega
      have hd := delf_some w.heap.size g2 c2 l w2 64 _ _ _ HEG.out HTL.out (fun W hb => ⟨(hb.block _ (blk_lt hbx2) (fun e => by omega)).trans hbx2, hB2.trans (hb.belowB hB2.size (fun k hk e => by omega))⟩) (ho2.lower (by have := HSZ.out; omega)) hl
      rw [drop_keep] at hd
      refine hd.mono ?_
      rintro e w' ⟨rfl, hown, hmv⟩
      exact ⟨_, _, rfl, hown, hB2.trans (hmv.belowB hB2.size (fun k hk e => by omega))⟩
  have HDEL := Lib.hid hdel; clear hdel hbx2 ho2 hb2 hB2
  go_wp2_with fail
  refine HDEL.out.mono ?_
  rintro e w4 ⟨A4, c4, rfl, ho4, hb4⟩
  have HO4 := Lib.hid ho4; have HB4 := Lib.hid hb4; clear ho4 hb4
  go_wp2
  go_ret
  exact ⟨A4, c4, rfl, HO4.out, HB4.out⟩
end
end Go.Proofs.YtgibcfeioljofaaGreatDoor
