/-
  An index: the numbers of the series that have a label of a matcher's name, of a value that it lets pass.
-/
import Derived.BigQuiet
import Derived.Laws.IdiomRangeMap
import Derived.Test.YtjgappbomohlcaaGreatDoorKMn
import Derived.Test.YtjgappbomohlcaaGreatDoorKPq4
namespace Go.Proofs.YtjgappbomohlcaaGreatDoor
section
set_option linter.unusedVariables false
set_option linter.unusedSimpArgs false
open Go.RowKit
section
set_option maxHeartbeats 1600000
set_option maxRecDepth 100000
theorem opp_any (k : Int) (w : World) : Calls Tryz.prog 78 #[.int .i64 k] w fun e w' => e = .returned (.int .i64 (oppK k)) ∧ w = w' := by
  obtain ⟨r, hr⟩ : ∃ r, r = oppK k := ⟨_, rfl⟩
  rw [← hr]
  unfold oppK at hr
  by_cases h1 : k = 1
  · subst h1; subst hr
    go_enter Tryz.func78, Tryz.ntmps78
    go_wp2_with fail
    go_ret
    exact ⟨rfl, rfl⟩
  · by_cases h2 : k = 2
    · subst h2; subst hr
      go_enter Tryz.func78, Tryz.ntmps78
      go_wp2_with fail
      go_ret
      exact ⟨rfl, rfl⟩
    · by_cases h3 : k = 3
      · subst h3; subst hr
        go_enter Tryz.func78, Tryz.ntmps78
        go_wp2_with fail
        go_ret
        exact ⟨rfl, rfl⟩
      · rw [if_neg h1, if_neg h2, if_neg h3] at hr
        subst hr
        have g1 : (k == 1) = false := by simpa using h1
        have g2 : (k == 2) = false := by simpa using h2
        have g3 : (k == 3) = false := by simpa using h3
        go_enter Tryz.func78, Tryz.ntmps78
        go_wp2_with fail
        go_ret
        exact ⟨rfl, rfl⟩
/-- The numbers that a matcher's values have, over an index. -/
def HasN (L : List Ser) (m : Mt') (r : List Nat) : Prop := r.length ≤ 4096 ∧ (∀ n ∈ r, n < 18446744073709551616) ∧ ∀ n, n ∈ r ↔ ∃ s ∈ L, s.1 = n ∧ ∃ x ∈ s.2, x.1 = m.2.1 ∧ passM m x.2 = true
theorem hasN_of {L : List Ser} (hL : Wf L) {m : Mt'} {r : List Nat} (hd : r.Nodup) (h : ∀ n, n ∈ r ↔ ∃ s ∈ L, s.1 = n ∧ ∃ x ∈ s.2, x.1 = m.2.1 ∧ passM m x.2 = true) : HasN L m r := by
  refine ⟨?_, fun n hn => ?_, h⟩
  · have := nodup_le hd (b := L.map (·.1)) fun n hn => by
      obtain ⟨s, hs, e, _⟩ := (h n).1 hn
      exact List.mem_map.2 ⟨s, hs, e⟩
    rw [List.length_map] at this
    exact Nat.le_trans this hL.few
  · obtain ⟨s, hs, e, _⟩ := (h n).1 hn
    rw [← e]; exact hL.num s hs
theorem hasL_nodup {L : List Ser} (hL : Wf L) (x : Lb) : (hasL L x).Nodup := by
  unfold hasL
  exact hL.refs.sublist (List.Sublist.map _ List.filter_sublist)
theorem restF_no {L : List Ser} {n : ByteArray} (h : restF L n = none) (v : ByteArray) : hasL L (n, v) = [] := by
  unfold restF at h
  split at h
  · cases h
  · rename_i hv
    exact Classical.byContradiction fun e => hv ⟨v, e⟩
theorem vlF_get (L : List Ser) (n v : ByteArray) : (vlF L n v).getD [] = hasL L (n, v) := by
  unfold vlF; split
  · rename_i e; rw [e]; rfl
  · rfl
theorem having_eq {W : World} {xb : Nat} {L : List Ser} {G : Gh} (h : IxE W xb L G) {nm vl : ByteArray} (h1 : nm.size ≤ 1000000) (h2 : vl.size ≤ 1000000) : ∃ p Av cv, Rd W Av ((hasL L (nm, vl)).map Un) ∧
    (∀ q, (Instr.lookup 73 (.map (some G.pb)) (.string nm) false).run Tryz.prog (W.drewN q) = .ok (.map p) (W.drewN q)) ∧
    ∀ q, (Instr.lookup 96 (.map p) (.string vl) false).run Tryz.prog (W.drewN q) = .ok (.slice Av (hasL L (nm, vl)).length cv) (W.drewN q) := by
  have hlk := fun q => IxF.look_name (w := W.drewN q) (h.po.moved fun _ _ => rfl) (s := nm) (by unfold maxLen; omega) false
  cases hg : restF L nm with
  | none =>
    rw [hg] at hlk
    simp only [Option.map_none, Option.getD_none, Bool.false_eq_true, if_false] at hlk
    refine ⟨none, none, 0, ?_, hlk, fun q => ?_⟩
    · rw [restF_no hg]; exact Rd.nil _ _
    · have := look_nilG KT (t := 96) (w := W.drewN q) Tryz.underlying96 (zeroUs _) (a := vl) (show vl.size ≤ maxLen by unfold maxLen; omega) false
      rw [restF_no hg]
      exact this
  | some g =>
    obtain ⟨hgv, -⟩ := restF_some hg
    have hlv := fun q => IxF.look_val (w := W.drewN q) (h.po.moved fun _ _ => rfl) hg (v := vl) (by unfold maxLen; omega) false
    rw [hg] at hlk
    simp only [Option.map_some, Option.getD_some, Bool.false_eq_true, if_false] at hlk hlv
    have hh := vlF_get L nm vl
    rw [← hgv] at hh
    cases hv : g vl with
    | none =>
      rw [hv] at hlv hh
      simp only [Option.map_none, Option.getD_none] at hlv hh
      rw [← hh]
      exact ⟨_, none, 0, Rd.nil _ _, hlk, hlv⟩
    | some l =>
      rw [hv] at hlv hh
      simp only [Option.map_some, Option.getD_some] at hlv hh
      rw [← hh]
      obtain ⟨ow, -⟩ := h.po.ow nm g vl l hg hv
      obtain ⟨AV, cV, hsl, hrd, -⟩ := own_rdU ow
      rw [hsl] at hlv
      exact ⟨_, AV, cV, hrd, hlk, hlv⟩
/-- The numbers of the values that a range has met, and that pass. -/
structure HvAt (g : ByteArray → Option (List Nat)) (p lf : ByteArray → Bool) (r : List Nat) : Prop where
  nd : r.Nodup
  mem : ∀ n, n ∈ r ↔ ∃ v l, g v = some l ∧ lf v = false ∧ p v = true ∧ n ∈ l
theorem HvAt.start {g : ByteArray → Option (List Nat)} {p lf : ByteArray → Bool} (h : ∀ v l, g v = some l → lf v = true) : HvAt g p lf [] :=
  ⟨List.nodup_nil, fun n => ⟨fun hn => absurd hn (by simp), fun ⟨v, l, h1, h2, _⟩ => by rw [h v l h1] at h2; cases h2⟩⟩
theorem HvAt.skip {g : ByteArray → Option (List Nat)} {p lf lf' : ByteArray → Bool} {r : List Nat} (h : HvAt g p lf r) {y : ByteArray} (hp : p y = false) (e : ∀ v, lf' v = (lf v && !decide (v = y))) : HvAt g p lf' r := by
  refine ⟨h.nd, fun n => ?_⟩
  rw [h.mem]
  constructor
  · rintro ⟨v, l, h1, h2, h3, h4⟩; exact ⟨v, l, h1, by rw [e, h2]; rfl, h3, h4⟩
  · rintro ⟨v, l, h1, h2, h3, h4⟩
    refine ⟨v, l, h1, ?_, h3, h4⟩
    rw [e] at h2
    by_cases hv : v = y
    · rw [hv, hp] at h3; cases h3
    · simpa [hv] using h2
theorem HvAt.step {g : ByteArray → Option (List Nat)} {p lf lf' : ByteArray → Bool} {r l : List Nat} (h : HvAt g p lf r) {y : ByteArray} (hp : p y = true) (hy : g y = some l) (hl : lf y = true) (hn : l.Nodup)
    (hd : ∀ v l', g v = some l' → ∀ n, n ∈ l' → n ∈ l → v = y) (e : ∀ v, lf' v = (lf v && !decide (v = y))) : HvAt g p lf' (r ++ l) := by
  constructor
  · rw [List.nodup_append]
    refine ⟨h.nd, hn, fun a ha b hb hab => ?_⟩
    subst hab
    obtain ⟨v, l', h1, h2, _, h4⟩ := (h.mem a).1 ha
    rw [hd v l' h1 a h4 hb, hl] at h2; cases h2
  · intro n
    rw [List.mem_append, h.mem]
    constructor
    · rintro (⟨v, l', h1, h2, h3, h4⟩ | hm)
      · exact ⟨v, l', h1, by rw [e, h2]; rfl, h3, h4⟩
      · exact ⟨y, l, hy, by rw [e]; simp, hp, hm⟩
    · rintro ⟨v, l', h1, h2, h3, h4⟩
      rw [e] at h2
      by_cases hv : v = y
      · subst hv; rw [hy] at h1; injection h1 with h1; subst h1; exact .inr h4
      · exact .inl ⟨v, l', h1, by simpa [hv] using h2, h3, h4⟩
theorem vlF_some {L : List Ser} {nm v : ByteArray} {l : List Nat} (h : vlF L nm v = some l) : l = hasL L (nm, v) ∧ l ≠ [] := by
  unfold vlF at h
  split at h
  · cases h
  · rename_i hne; injection h with h; subst h; exact ⟨rfl, hne⟩
theorem has_one {L : List Ser} (hL : Wf L) {nm v v' : ByteArray} {n : Nat} (h : n ∈ hasL L (nm, v)) (h' : n ∈ hasL L (nm, v')) : v = v' := by
  obtain ⟨s, hs, e, hx⟩ := hasL_mem.1 h
  obtain ⟨t, ht, e', hx'⟩ := hasL_mem.1 h'
  obtain rfl := hL.one hs ht (e.trans e'.symm)
  have := nodup_map_inj (rising_nodup (right_parts (hL.right s hs)).2.2) hx hx' rfl
  injection this
theorem HvAt.done {L : List Ser} (hL : Wf L) {m : Mt'} {lf : ByteArray → Bool} {r : List Nat} (h : HvAt (vlF L m.2.1) (passM m) lf r) (hl : ∀ v, lf v = false) : HasN L m r := by
  refine hasN_of hL h.nd fun n => ?_
  rw [h.mem]
  constructor
  · rintro ⟨v, l, h1, _, h3, h4⟩
    obtain ⟨rfl, -⟩ := vlF_some h1
    obtain ⟨s, hs, e, hx⟩ := hasL_mem.1 h4
    exact ⟨s, hs, e, _, hx, rfl, h3⟩
  · rintro ⟨s, hs, e, ⟨x1, x2⟩, hx, e1, e2⟩
    simp only at e1 e2
    subst e1
    have hm : n ∈ hasL L (m.2.1, x2) := hasL_mem.2 ⟨s, hs, e, hx⟩
    refine ⟨x2, hasL L (m.2.1, x2), ?_, hl _, e2, hm⟩
    unfold vlF
    rw [if_neg (List.ne_nil_of_mem hm)]
theorem HvAt.len {L : List Ser} (hL : Wf L) {nm : ByteArray} {p lf : ByteArray → Bool} {r : List Nat} (h : HvAt (vlF L nm) p lf r) : r.length ≤ 4096 := by
  have := nodup_le h.nd (b := L.map (·.1)) fun n hn => by
    obtain ⟨v, l, h1, _, _, h4⟩ := (h.mem n).1 hn
    obtain ⟨rfl, -⟩ := vlF_some h1
    obtain ⟨s, hs, e, _⟩ := hasL_mem.1 h4
    exact List.mem_map.2 ⟨s, hs, e⟩
  rw [List.length_map] at this
  exact Nat.le_trans this hL.few
theorem passes_one (m : Mt') (y : ByteArray) : passesM [m] [(m.2.1, y)] = passM m y := by
  simp [passesM, getP]
theorem has_of {P : Program} {k : TypeId} {κ : Type} [DecidableEq κ] (K : KeyK P k κ) {es : List (κ × Value)} {y : κ} {u : Value} (h : lkG es y = some u) : Maps.has (K.map es) (K.kl y) = true := by
  have hm := lk_mem h
  unfold KeyK.map Maps.has
  simp only [List.any_eq_true]
  exact ⟨_, List.mem_map.2 ⟨_, hm, rfl⟩, by show (K.kl y).sameKey (K.kl y) = true; rw [K.same]; simp⟩
theorem sl_of {v : Value} (h : isSlice v = true) : ∃ c : Option Addr × Nat × Nat, v = .slice c.1 c.2.1 c.2.2 := by
  cases v <;> first | exact ⟨(_, _, _), rfl⟩ | cases h
theorem own_rdU' {w : World} {B : Nat} {A : Option Addr} {c n : Nat} {l : List Nat} (h : w.ownsRow B 23 1 (.slice A n c) l.length (l.map Un)) : Rd w A (l.map Un) := by
  obtain ⟨A1, c1, e, h1, -⟩ := own_rdU h
  injection e with e
  rw [e]; exact h1
def HavO (w : World) (L : List Ser) (m : Mt') (e : Ending) (w' : World) : Prop := ∃ A c r, e = .returned (.slice A r.length c) ∧ Rd w' A (r.map Un) ∧ HasN L m r ∧ Below w.heap.size w w'
theorem having_any {w : World} {xb : Nat} {L : List Ser} {G : Gh} (h : IxE w xb L G) (m : Mt') (h1 : m.2.1.size ≤ 1000000) (h2 : m.2.2.size ≤ 1000000) {b : Nat} (hs : SetIs w b [m]) :
    Calls Tryz.prog 77 #[.pointer (some ⟨xb, 0, none⟩), .agg #[.int .i64 m.1, .string m.2.1, .string m.2.2], .pointer (some ⟨b, 0, none⟩)] w (HavO w L m) := by
  obtain ⟨kd, nm, vl⟩ := m
  simp only at h1 h2
  have hb0 : Below w.heap.size w (w.alloc (.cells #[.int .i64 kd, .string nm, .string vl] 66)) := (Below.refl _ w).alloc (Nat.le_refl _) _
  obtain ⟨W, hW⟩ : ∃ W, W = w.alloc (.cells #[.int .i64 kd, .string nm, .string vl] 66) := ⟨_, rfl⟩
  rw [← hW] at hb0
  have hbx : W.heap[w.heap.size]? = some (.cells #[.int .i64 kd, .string nm, .string vl] 66 (0, 0)) := by rw [hW]; exact heap_alloc_new w _
  have hi := h.below hb0
  have hsW := hs.below hb0
  have c2 := cell_blk hi.box 2
  have d0 := cell_blk hbx 0; have d1 := cell_blk hbx 1; have d2 := cell_blk hbx 2
  simp only [List.getElem?_toArray, List.getElem?_cons_succ, List.getElem?_cons_zero] at c2 d0 d1 d2
  have HW := Lib.hid hW; clear hW
  have HB0 := Lib.hid hb0; clear hb0
  have hxl := hi.xlt
  by_cases hk : kd = 1
  · subst hk
    obtain ⟨p, Av, cv, hrd, q1, q2⟩ := having_eq hi h1 h2
    have HRD := Lib.hid hrd
    have HH := Lib.hid (hasN_of (m := (1, nm, vl)) h.wf (hasL_nodup h.wf (nm, vl)) fun n => by
      rw [hasL_mem]
      constructor
      · rintro ⟨s, hs, e, hx⟩; exact ⟨s, hs, e, _, hx, rfl, by simp [passM]⟩
      · rintro ⟨s, hm, e, ⟨x1, x2⟩, hx, e1, e2⟩
        have e3 : x2 = vl := by simpa [passM] using e2
        simp only at e1
        subst e1 e3
        exact ⟨s, hm, e, hx⟩)
    generalize hasL L (nm, vl) = r at *
    clear hrd h hs hi hsW hbx
    go_enter Tryz.func77, Tryz.ntmps77
    go_wp2_with fail
    rw [← HW.out]
    go_quiet (fail)
    go_wp2_with fail
    go_ret
    exact ⟨Av, cv, r, rfl, HRD.out.drewN _, HH.out, ⟨HB0.out.os, HB0.out.tape, HB0.out.output, HB0.out.size, HB0.out.block⟩⟩
  · have hkb : (kd == 1) = false := by simpa using hk
    have hlk := fun q => IxF.look_name (w := W.drewN q) (hi.po.moved fun _ _ => rfl) (s := nm) (by unfold maxLen; omega) false
    cases hg : restF L nm with
    | none =>
      rw [hg] at hlk
      simp only [Option.map_none, Option.getD_none, Bool.false_eq_true, if_false] at hlk
      have HH := Lib.hid (hasN_of (m := (kd, nm, vl)) (r := []) h.wf List.nodup_nil fun n => by
        constructor
        · intro hn; cases hn
        · rintro ⟨s, hm, e, ⟨x1, x2⟩, hx, e1, e2⟩
          simp only at e1
          subst e1
          have : n ∈ hasL L (x1, x2) := hasL_mem.2 ⟨s, hm, e, hx⟩
          rw [restF_no hg] at this; exact this)
      clear h hs hi hsW hbx hg
      go_enter Tryz.func77, Tryz.ntmps77
      go_wp2_with fail
      rw [← HW.out]
      go_quiet (fail)
      have hrn := fun q => run_range_nilMap (P := Tryz.prog) (W.drewN q) 96 9 49 Tryz.underlying96
      have hnx : ∀ q ty, (Instr.next (.pointer (some ⟨W.heap.size, 0, none⟩)) false ty).run Tryz.prog ((W.drewN q).alloc (.mapIter none 0 #[] 0)) = .ok (.tuple #[.bool false]) ((W.drewN q).alloc (.mapIter none 0 #[] 0)) := fun q ty => run_next_nilMap (P := Tryz.prog) (W.drewN q) ty 0 0 #[]
      go_wp2_with fail
      go_loopw [8] (fun s8 wr => s8 = .slice none 0 0 ∧ wr = (W.drewN nq).alloc (.mapIter none 0 #[] 0)) (fun _ _ => 0)
      case atStart => exact ⟨rfl, rfl⟩
      case round =>
        obtain ⟨rfl, rfl⟩ := hrel
        go_wp2_with fail
        go_ret
        exact ⟨none, 0, [], rfl, Rd.nil _ _, HH.out, (show Below w.heap.size w (W.drewN nq) from ⟨HB0.out.os, HB0.out.tape, HB0.out.output, HB0.out.size, HB0.out.block⟩).alloc HB0.out.size _⟩
    | some g =>
      obtain ⟨hgv, -⟩ := restF_some hg
      obtain ⟨i1, i2, i3⟩ := hi.po.im nm g hg
      rw [hg] at hlk
      simp only [Option.map_some, Option.getD_some, Bool.false_eq_true, if_false] at hlk
      have HI := Lib.hid hi; have HS := Lib.hid hsW; have HBX := Lib.hid hbx; have HWF := Lib.hid h.wf; have HG := Lib.hid hg; have HGV := Lib.hid hgv; have I1 := Lib.hid i1; have I3 := Lib.hid i3
      have hml := i1.lt
      have hbl := lt_of_block hbx
      obtain ⟨mb, hmb⟩ : ∃ mb, mb = G.mb nm := ⟨_, rfl⟩
      obtain ⟨es, hes⟩ : ∃ es, es = G.iE nm := ⟨_, rfl⟩
      rw [← hmb] at hlk I1 hml
      rw [← hes] at I1 I3
      have HMB := Lib.hid hmb; have HES := Lib.hid hes
      clear h hs hi hsW hbx hg hgv i1 i2 i3 hmb hes
      go_enter Tryz.func77, Tryz.ntmps77
      go_wp2_with fail
      rw [← HW.out]
      go_quiet (fail)
      go_wp2_with (first
        | (at_range; go_loud (refine wpList_rangeG rfl _ 96 rfl Tryz.underlying96 (show MapG KT isSlice (W.drewN nq) mb es from I1.out.moved rfl) rfl ?_); intro w0 hrg0 hg0 hs0)
        | fail)
      go_frame
      have hb0 : Below W.heap.size W w0 := by
        have := (Mv.refl (fun _ => False) (W.drewN nq)).grown hg0 (fun k _ h => by cases h)
        exact (show Mv (fun _ => False) W w0 from ⟨this.os, this.tape, this.output, this.size, this.block⟩).below
      have hws0 : w0.heap.size = W.heap.size + 1 := hs0
      have HR0 := Lib.hid hrg0; have HBW := Lib.hid hb0
      clear hrg0 hg0 hs0 hb0 hlk
      have hst : HvAt (vlF L nm) (passM (kd, nm, vl)) (fun v => Maps.has (KT.map es) (KT.kl v)) [] := HvAt.start fun v l hv => by
        rw [← HGV.out] at hv
        have := I3.out v
        rw [hv] at this
        exact has_of KT this
      have HST := Lib.hid hst
      clear hst
      go_loopw [8] (fun s8 wr => ∃ (left : Lit → Bool) (cnt : Nat) (A8 : Option Addr) (c8 : Nat) (r : List Nat), s8 = .slice A8 r.length c8 ∧ W.heap.size + 1 ≤ wr.heap.size ∧ Aside (wr.ranges Tryz.prog 9 (shR isSlice) mb W.heap.size es.length (KT.map es) left cnt)
        ∧ Aside (wr.ownsRow (W.heap.size + 1) 23 1 (.slice A8 r.length c8) r.length (r.map Un)) ∧ Aside (Below W.heap.size W wr) ∧ Aside (HvAt (vlF L nm) (passM (kd, nm, vl)) (fun v => left (KT.kl v)) r)) (fun _ wr => wr.rangeLeft mb W.heap.size)
      case atStart => exact ⟨_, _, none, 0, [], rfl, by omega, (show Aside _ from HR0.out), (show Aside _ from World.ownsRow_nil _ _ _ _), (show Aside _ from HBW.out), (show Aside _ from HST.out)⟩
      case round =>
        clear HST HR0 hws0
        obtain ⟨left, cnt, A8, c8, r, rfl, hws, RG, OW, BW, HV⟩ := hrel
        go_wp2_with (first
          | (at_next; go_loud (refine wpList_nextG (β := Option Addr × Nat × Nat) (fun c => .slice c.1 c.2.1 c.2.2) (fun v hv => sl_of hv) I1.out.nd rfl _ rfl W.heap.size es.length left cnt rfl RG.out ?_ ?_))
          | fail)
        · intro h0 hl
          go_wp2_with fail
          go_ret
          exact ⟨A8, c8, r, rfl, (own_rdU' OW.out), HV.out.done HWF.out hl, HB0.out.trans (BW.out.mono HB0.out.size)⟩
        · intro y A9 n9 c9 w1 cnt1 hlk hok hly hrg hlt hgr hsz hen
          have hgy := I3.out y
          rw [hlk] at hgy
          cases hv : g y with
          | none => rw [hv] at hgy; cases hgy
          | some l =>
            rw [hv] at hgy
            injection hgy with hgy
            replace hgy : Value.slice A9 n9 c9 = G.sl nm y := hgy
            obtain ⟨ow, -⟩ := HI.out.po.ow nm g y l HG.out hv
            rw [← hgy] at ow
            obtain ⟨AV, cV, e1, hrd, hlc, -⟩ := own_rdU ow
            injection e1 with e1 e2 e3
            subst e1 e2 e3
            have hvl : vlF L nm y = some l := by rw [← HGV.out]; exact hv
            obtain ⟨hl1, hl2⟩ := vlF_some hvl
            have hlen : l.length ≤ 4096 := by rw [hl1]; exact Nat.le_trans (hasL_len _ _) HWF.out.few
            have hb1 : Below W.heap.size W w1 := BW.out.grown hgr BW.out.size (fun k h => by injection h with h; omega)
            obtain ⟨b9, o9, rfl⟩ : ∃ b o, A9 = some ⟨b, o, none⟩ := by
              cases l with
              | nil => exact absurd rfl hl2
              | cons x t => obtain ⟨b, o, e, -⟩ := headU hrd; exact ⟨b, o, e⟩
            have d1 := cell_blk ((hb1.block _ hbl).trans HBX.out) 1
            simp only [List.getElem?_toArray, List.getElem?_cons_succ, List.getElem?_cons_zero] at d1
            have HEN : (Instr.entry (.pointer (some ⟨W.heap.size, 0, none⟩))).run Tryz.prog w1 = .ok (.tuple #[.string y, .slice (some ⟨b9, o9, none⟩) l.length c9]) w1 := hen
            have hba : Below W.heap.size W (w1.alloc (.cells #[.string nm, .string y] 80)) := hb1.alloc hb1.size _
            have hm := mmatch_any b [(kd, nm, vl)] (some ⟨w1.heap.size, 0, none⟩) 1 [(nm, y)] (w1.alloc (.cells #[.string nm, .string y] 80)) (HS.out.below hba) (by simp) (rd_row w1 (lcells [(nm, y)]) 80) (by simp)
            rw [passes_one (kd, nm, vl) y, show [(nm, y)].length = 1 from rfl] at hm
            have how : ∀ w2, Below (w1.alloc (.cells #[.string nm, .string y] 80)).heap.size (w1.alloc (.cells #[.string nm, .string y] 80)) w2 → Below w1.heap.size w1 w2 ∧ w2.ownsRow (W.heap.size + 1) 23 1 (.slice A8 r.length c8) r.length (r.map Un) ∧ w2.ranges Tryz.prog 9 (shR isSlice) mb W.heap.size es.length (KT.map es) (struckG KT left y) cnt1 := fun w2 h2 => by
              have hz : w1.heap.size ≤ (w1.alloc (.cells #[.string nm, .string y] 80)).heap.size := by rw [World.size_alloc]; omega
              have hb2 : Below w1.heap.size w1 w2 := ((Below.refl _ w1).alloc (Nat.le_refl _) _).trans (h2.mono hz)
              have o1 : w1.ownsRow (W.heap.size + 1) 23 1 (.slice A8 r.length c8) r.length (r.map Un) := own_moved OW.out fun k hk => hgr.block k (OW.out.lt k hk).2 (fun e => by injection e with e; have := (OW.out.lt k hk).1; omega)
              refine ⟨hb2, own_moved o1 fun k hk => hb2.block k (o1.lt k hk).2, ?_⟩
              exact World.ranges.kept (w := w1) (row := none) hrg ⟨hb2.os, hb2.tape, hb2.output, hb2.size, fun i hi _ => hb2.block i hi⟩ (by simp) (by simp)
            have hws1 : W.heap.size + 1 ≤ w1.heap.size := by omega
            clear hsz
            have HOW := Lib.hid how
            have HRL : w1.rangeLeft mb W.heap.size = cnt1 := hrg.left_eq
            have HRR : wr.rangeLeft mb W.heap.size = cnt := RG.out.left_eq
            have HCL := Lib.hid (show cnt1 < cnt from hlt)
            have HB1 := Lib.hid hb1
            have HLY := Lib.hid hly
            have HVL := Lib.hid hvl; have HL1 := Lib.hid hl1
            have HRD := Lib.hid hrd
            have HRR' := Lib.hid HRR; clear HRL HRR
            clear how hrg hlt hgr hb1 hba hen hly hvl hl1 hl2 hrd hlk hok ow hgy hv
            cases hp : passM (kd, nm, vl) y with
            | false =>
              rw [hp] at hm
              have HM := Lib.hid hm; clear hm
              have HP := Lib.hid hp; clear hp
              go_wp2_with (first
                | (go_at_call 96; go_must (with_reducible refine HM.out.mono ?_); rintro e w2 ⟨rfl, hb2⟩; have HB2 := Lib.hid hb2; clear hb2)
                | fail)
              obtain ⟨p1, p2, p3⟩ := HOW.out w2 HB2.out
              have P1 := Lib.hid p1; have P2 := Lib.hid p2; have P3 := Lib.hid p3
              clear p1 p2 p3
              refine ⟨?_, ?_⟩
              · repeat apply Exists.intro
                refine ⟨?_, rfl⟩
                exact ⟨struckG KT left y, cnt1, A8, c8, r, rfl, Nat.le_trans hws1 P1.out.size, (show Aside _ from P3.out), (show Aside _ from P2.out), (show Aside _ from HB1.out.trans (P1.out.mono HB1.out.size)), (show Aside _ from HV.out.skip HP.out fun v => struckG_at (K := KT) left v y)⟩
              · rw [P3.out.left_eq, HRR'.out]; exact HCL.out
            | true =>
              rw [hp] at hm
              have HM := Lib.hid hm; clear hm
              have hv2 := HV.out.step (lf' := fun v => struckG KT left y (KT.kl v)) hp HVL.out HLY.out (by rw [HL1.out]; exact hasL_nodup HWF.out _) (fun v l' h1 n h2 h3 => by
                obtain ⟨e2, -⟩ := vlF_some h1
                rw [e2] at h2
                rw [HL1.out] at h3
                exact has_one HWF.out h2 h3) (fun v => struckG_at (K := KT) left v y)
              have hrl := HV.out.len HWF.out
              have HV2 := Lib.hid hv2; have HP := Lib.hid hp; clear hp hv2
              go_wp2_with (first
                | (go_at_call 96; go_must (with_reducible refine HM.out.mono ?_); rintro e w2 ⟨rfl, hb2⟩
                   obtain ⟨p1, p2, p3⟩ := HOW.out w2 hb2
                   have hr2 := HRD.out.below (HB1.out.trans (p1.mono HB1.out.size))
                   have P1 := Lib.hid p1; have P2 := Lib.hid p2; have P3 := Lib.hid p3; have HR2 := Lib.hid hr2
                   clear p1 p2 p3 hb2 hr2)
                | (at_builtin; go_must (refine wpList_append_u rfl _ _ rfl (W.heap.size + 1) _ r rfl P2.out ⟨b9, o9, none⟩ c9 l rfl HR2.out (by omega) (Nat.le_trans hws1 P1.out.size) ?_; intro v4 w4 own4 grow4 at4))
                | fail)
              have g4 : w2.grownBy w4 (Value.slice A8 r.length c8).ownBlock := grow4
              have hb4 : Below W.heap.size W w4 := (HB1.out.trans (P1.out.mono HB1.out.size)).grown g4 (Nat.le_trans HB1.out.size P1.out.size) (fun k h => Nat.le_of_succ_le (P2.out.lt k h).1)
              have hr4 := World.ranges.kept (w := w2) P3.out g4 (fun e => by have := (P2.out.lt mb e.symm).1; omega) (fun e => by have := (P2.out.lt W.heap.size e.symm).1; omega)
              obtain ⟨A4, c4, hv4, -⟩ := own_rdU own4
              subst hv4
              refine ⟨?_, ?_⟩
              · repeat apply Exists.intro
                refine ⟨?_, rfl⟩
                exact ⟨struckG KT left y, cnt1, A4, c4, r ++ l, rfl, Nat.le_trans (Nat.le_trans hws1 P1.out.size) g4.size, (show Aside _ from hr4), (show Aside _ from own4), (show Aside _ from hb4), (show Aside _ from HV2.out)⟩
              · rw [hr4.left_eq, HRR'.out]; exact HCL.out
end
end
end Go.Proofs.YtjgappbomohlcaaGreatDoor
