/-
  A disk's calls that write to a file that is there: end, Sync, Cut, Remove, Swap.
  A disk's files, one of them under another name; draws let by.
-/
import Derived.Test.YtnmbjhpecblioaaGreatDoorDb
import Derived.Test.YtnmbjhpecblioaaGreatDoorDu
import Derived.Test.YtnmbjhpecblioaaGreatDoorDn
namespace Go.Proofs.YtnmbjhpecblioaaGreatDoor
set_option linter.unusedVariables false
set_option linter.unusedSimpArgs false
section
set_option linter.unusedVariables false
set_option linter.unusedSimpArgs false
open Go.Maps Go.RowKit
def MutOut (w : World) (db mb room : Nat) (es : List Ent) (r : Int × List Fl) (e : Ending) (w' : World) : Prop :=
  e = .returned (.int .i64 r.1) ∧ ∃ es', DiskE w' db mb room es' ∧ es'.map val = r.2 ∧ Mv (foot db mb es) w w' ∧ ∀ k, foot db mb es' k → foot db mb es k ∨ w.heap.size ≤ k
theorem MutOut.same {w : World} {db mb room : Nat} {es : List Ent} {c : Int} (h : DiskE w db mb room es) : MutOut w db mb room es (c, es.map val) (.returned (.int .i64 c)) w :=
  ⟨rfl, es, h, rfl, Mv.refl _ _, fun k hk => .inl hk⟩
theorem slice_cut (A : Option Addr) (n c k : Nat) (h : k ≤ c) (W : World) : (Instr.sliceAt 29 (.slice A n c) none (some (.int .i64 (k : Int))) (some (.int .i64 (k : Int)))).run Tryz.prog W = .ok (.slice A k k) W := by
  obtain ⟨i0, hi, hz0, hz1, hz2⟩ := info_parts infoU8
  have b1 := fun x => run_bound (P := Tryz.prog) W k k x (Nat.le_refl _)
  have b2 := fun x => run_bound (P := Tryz.prog) W k c x h
  cases A with
  | none => simp [Instr.sliceAt, Instr.slice, Instr.sliceBounds, run_underlying Tryz.underlying29, sizeOf, typeInfo, hi, hz1, b1, b2]
  | some a => simp [Instr.sliceAt, Instr.slice, Instr.sliceBounds, run_underlying Tryz.underlying29, sizeOf, typeInfo, hi, hz1, b1, b2, Addr.add]
theorem set_box0 {w : World} {b : Nat} {v u x : Value} {t : TypeId} (h : w.heap[b]? = some (.cells #[v, u] t (0, 0))) : (w.setCell ⟨b, 0, none⟩ x).heap[b]? = some (.cells #[x, u] t (0, 0)) := set_blk h 0 x
theorem set_box1 {w : World} {b : Nat} {v u x : Value} {t : TypeId} (h : w.heap[b]? = some (.cells #[v, u] t (0, 0))) : (w.setCell ⟨b, 1, none⟩ x).heap[b]? = some (.cells #[v, x] t (0, 0)) := set_blk h 1 x
theorem set_other (w : World) (b o : Nat) (u : Value) {k : Nat} (h : k ≠ b) : (w.setCell ⟨b, o, none⟩ u).heap[k]? = w.heap[k]? := Below.heap_setCell _ _ _ _ h
theorem set_size (w : World) (a : Addr) (u : Value) : (w.setCell a u).heap.size = w.heap.size := by simp
theorem upd_len {s : ByteArray} {f : Fl} : ∀ {L : List Fl}, lookL L s = some f → ∀ x : Fl, x.1 = s → x.2.1.length ≤ f.2.1.length → (L.Pairwise fun a b => a.1 ≠ b.1) → lenL (updL L x) ≤ lenL L
  | y :: r, hl, x, hx, hle, hp => by
    rw [List.pairwise_cons] at hp
    unfold lookL at hl
    rw [List.find?_cons] at hl
    show lenL ((if y.1 = x.1 then x else y) :: updL r x) ≤ _
    rw [lenL_cons, lenL_cons]
    by_cases hy : y.1 = s
    · rw [decide_eq_true hy] at hl
      injection hl with hl
      rw [if_pos (hy.trans hx.symm)]
      have : updL r x = r := by
        unfold updL
        refine (List.map_congr_left fun z hz => ?_).trans (List.map_id r)
        rw [if_neg fun e => hp.1 z hz (by rw [hy, e, hx])]; rfl
      rw [this, hl]; omega
    · rw [decide_eq_false hy] at hl
      have := upd_len (s := s) (f := f) (L := r) hl x hx hle hp.2
      rw [if_neg fun e => hy (e.trans hx)]; omega
section
set_option maxHeartbeats 1600000
set_option maxRecDepth 100000
theorem end_any {w : World} {b : Nat} {v : Value} {m : Int} {xs : List UInt8} (hb : w.heap[b]? = some (.cells #[v, .int .i64 m] 92 (0, 0))) (hv : BytesAt w v xs) (n : Nat) (hn : n ≤ xs.length) :
    Calls Tryz.prog 69 #[.pointer (some ⟨b, 0, none⟩), .int .i64 (n : Nat)] w fun e w' => e = .returned (.tuple #[]) ∧ ∃ v', w'.heap[b]? = some (.cells #[v', .int .i64 (n : Nat)] 92 (0, 0)) ∧ BytesAt w' v' (xs.take n) ∧
      (∀ g, v'.ownBlock = some g → v.ownBlock = some g) ∧ (∀ k, k ≠ b → w'.heap[k]? = w.heap[k]?) ∧ Mv (fun k => k = b) w w' ∧ w'.heap.size = w.heap.size := by
  obtain ⟨A, c, rfl, hr, hc, hA⟩ := hv.rd
  have hsl := slice_cut A xs.length c n (by omega)
  have c0 := cell_blk hb 0; have c1 := cell_blk hb 1
  have f0 := free_blk hb 0; have f1 := free_blk hb 1
  have hb2 := set_box1 (x := .int .i64 (n : Nat)) (set_box0 (x := .slice A n n) hb)
  simp only [List.getElem?_toArray, List.getElem?_cons_succ, List.getElem?_cons_zero] at c0 c1
  have hmv : Mv (fun k => k = b) w ((w.setCell ⟨b, 0, none⟩ (.slice A n n)).setCell ⟨b, 1, none⟩ (.int .i64 (n : Nat))) := (((Mv.refl (fun k => k = b) w).setCell (p := ⟨b, 0, none⟩) (fun _ => rfl) _).setCell (p := ⟨b, 1, none⟩) (fun _ => rfl) _)
  have hot : ∀ k, k ≠ b → ((w.setCell ⟨b, 0, none⟩ (.slice A n n)).setCell ⟨b, 1, none⟩ (.int .i64 (n : Nat))).heap[k]? = w.heap[k]? := fun k hk => (set_other _ _ _ _ hk).trans (set_other _ _ _ _ hk)
  have hby : BytesAt w (.slice A n n) (xs.take n) := by
    have hl : (xs.take n).length = n := by rw [List.length_take]; omega
    cases A with
    | none =>
      have : c = 0 := hA rfl
      obtain rfl : n = 0 := by omega
      rw [List.take_zero]; exact BytesAt.nil w
    | some a =>
      obtain ⟨cs, hcs⟩ := hv.blk (g := a.block) rfl
      exact .inr ⟨a, by rw [hl], by rw [List.map_take]; exact hr.take n, cs, hcs⟩
  have hne : ∀ g, (Value.slice A n n).ownBlock = some g → g ≠ b := fun g hg e => by
    subst e
    exact hby.ne hb (by decide) hg
  have HBY := Lib.hid (hby.moved (w' := (w.setCell ⟨b, 0, none⟩ (.slice A n n)).setCell ⟨b, 1, none⟩ (.int .i64 (n : Nat))) fun g hg => hot g (hne g hg))
  have HMV := Lib.hid hmv; have HOT := Lib.hid hot; have HB2 := Lib.hid hb2
  clear hv hr hA hb hb2 hby hne hmv hot
  go_enter Tryz.func69, Tryz.ntmps69
  go_wp2
  go_end0
  exact ⟨rfl, _, HB2.out, HBY.out, fun g hg => by cases A <;> exact hg, HOT.out, HMV.out, by simp⟩
theorem srt_fst {es : List Ent} (h : SrtE es) : (es.map val).Pairwise fun a b => a.1 ≠ b.1 := by rw [List.pairwise_map]; exact srtE_ne h
section
variable {w : World} {db mb room : Nat} {es : List Ent}
theorem foot_upd {es : List Ent} {x x' : Ent} (hx : x ∈ es) (hbx : x'.bx = x.bx) (hrow : ∀ g, x'.v.ownBlock = some g → x.v.ownBlock = some g) {k : Nat} (h : foot db mb (updE es x') k) : foot db mb es k := by
  rcases h with h | h | ⟨e, he, h⟩
  · exact .inl h
  · exact .inr (.inl h)
  · rcases updE_mem he with ⟨rfl, -⟩ | ⟨he, -⟩
    · rcases h with h | h
      · exact .inr (.inr ⟨x, hx, .inl (h.trans hbx)⟩)
      · exact .inr (.inr ⟨x, hx, .inr (hrow k h)⟩)
    · exact .inr (.inr ⟨e, he, h⟩)
theorem foot_sub {es es' : List Ent} (hs : ∀ e ∈ es', e ∈ es) {k : Nat} (h : foot db mb es' k) : foot db mb es k := by
  rcases h with h | h | ⟨e, he, h⟩
  · exact .inl h
  · exact .inr (.inl h)
  · exact .inr (.inr ⟨e, hs e he, h⟩)
theorem sync_any (h : DiskE w db mb room es) (s : ByteArray) (hs : s.size ≤ maxLen) : Calls Tryz.prog 19 #[.pointer (some ⟨db, 0, none⟩), .string s] w (MutOut w db mb room es (syncD (es.map val) s)) := by
  have HF := Lib.hid (find_any h s hs)
  unfold syncD
  rw [look_val]
  cases hl : lookE es s with
  | none =>
    rw [hl] at HF
    simp only [findV] at HF
    simp only [Option.map_none]
    go_enter Tryz.func19, Tryz.ntmps19
    go_wp2_with (first
      | (go_at_call 60; refine HF.out.mono ?_; rintro e w1 ⟨rfl, rfl⟩)
      | fail)
    go_ret
    exact MutOut.same h
  | some x =>
    rw [hl] at HF
    simp only [findV] at HF
    simp only [Option.map_some]
    obtain ⟨hm, rfl⟩ := lookE_mem hl
    obtain ⟨hb, hv⟩ := h.at_ x hm
    have hw := DiskE.upd (w' := w.setCell ⟨x.bx, 1, none⟩ (.int .i64 (x.bs.length : Nat))) h (x' := { x with n := x.bs.length }) hm rfl rfl (set_box1 hb) (hv.moved fun g hg => set_other _ _ _ _ (fun e => h.bx_ne hm hm (e ▸ hg)))
      (fun g hg => .inl hg) (fun k _ hk _ => set_other _ _ _ _ hk) (Nat.le_trans (by rw [← upd_val]; exact upd_len (s := x.nm) (f := val x) (by rw [look_val, hl]; rfl) _ rfl (Nat.le_refl _) (srt_fst h.srt)) h.fits.1) (Nat.le_refl _)
    have hfin : MutOut w db mb room es (0, updL (es.map val) (x.nm, (val x).2.1, (val x).2.1.length)) (.returned (.int .i64 0)) (w.setCell ⟨x.bx, 1, none⟩ (.int .i64 (x.bs.length : Nat))) :=
      ⟨rfl, _, hw, (upd_val es { x with n := x.bs.length }).symm, (Mv.refl _ w).setCell (p := ⟨x.bx, 1, none⟩) (fun _ => .inr (.inr ⟨x, hm, .inl rfl⟩)) _, fun k hk => .inl (foot_upd (x' := { x with n := x.bs.length }) hm rfl (fun g hg => hg) hk)⟩
    have HFIN := Lib.hid hfin
    obtain ⟨A, c, e1, -, hc, -⟩ := hv.rd
    have c0 := cell_blk hb 0; have c1 := cell_blk hb 1
    have f0 := free_blk hb 0; have f1 := free_blk hb 1
    simp only [List.getElem?_toArray, List.getElem?_cons_succ, List.getElem?_cons_zero] at c0 c1
    rw [e1] at c0
    clear hl hm hb hv e1 hc hw hfin
    go_enter Tryz.func19, Tryz.ntmps19
    go_wp2_with (first
      | (go_at_call 60; refine HF.out.mono ?_; rintro e w1 ⟨rfl, rfl⟩)
      | fail)
    go_ret
    exact HFIN.out
theorem MutOut.upd1 (h : DiskE w db mb room es) {x : Ent} (hm : x ∈ es) {w' : World} {v' : Value} {bs' : List UInt8} {n' : Nat} (hb' : w'.heap[x.bx]? = some (.cells #[v', .int .i64 (n' : Nat)] 92 (0, 0))) (hby : BytesAt w' v' bs')
    (hrow : ∀ g, v'.ownBlock = some g → x.v.ownBlock = some g) (hot : ∀ k, k ≠ x.bx → w'.heap[k]? = w.heap[k]?) (hmv : Mv (fun k => k = x.bx) w w') (hle : bs'.length ≤ x.bs.length) (hn : n' ≤ bs'.length) :
    MutOut w db mb room es (0, updL (es.map val) (x.nm, bs', n')) (.returned (.int .i64 0)) w' := by
  have hl := lookE_of h.srt hm
  have hw := DiskE.upd (w' := w') h (x' := { x with v := v', bs := bs', n := n' }) hm rfl rfl hb' hby (fun g hg => .inl (hrow g hg)) (fun k _ hk _ => hot k hk)
    (Nat.le_trans (by rw [← upd_val]; exact upd_len (s := x.nm) (f := val x) (by rw [look_val, hl]; rfl) _ rfl hle (srt_fst h.srt)) h.fits.1) hn
  exact ⟨rfl, _, hw, (upd_val es { x with v := v', bs := bs', n := n' }).symm, hmv.mono fun k _ e => .inr (.inr ⟨x, hm, .inl e⟩), fun k hk => .inl (foot_upd (x' := { x with v := v', bs := bs', n := n' }) hm rfl hrow hk)⟩
theorem cut_any (h : DiskE w db mb room es) (s : ByteArray) (hs : s.size ≤ maxLen) (n : Int) : Calls Tryz.prog 95 #[.pointer (some ⟨db, 0, none⟩), .string s, .int .i64 n] w (MutOut w db mb room es (cutD (es.map val) s n)) := by
  have HF := Lib.hid (find_any h s hs)
  unfold cutD
  rw [look_val]
  cases hl : lookE es s with
  | none =>
    rw [hl] at HF
    simp only [findV] at HF
    simp only [Option.map_none]
    go_enter Tryz.func95, Tryz.ntmps95
    go_wp2_with (first
      | (go_at_call 60; refine HF.out.mono ?_; rintro e w1 ⟨rfl, rfl⟩)
      | fail)
    go_ret
    exact MutOut.same h
  | some x =>
    rw [hl] at HF
    simp only [findV] at HF
    simp only [Option.map_some]
    obtain ⟨hm, rfl⟩ := lookE_mem hl
    obtain ⟨hb, hv⟩ := h.at_ x hm
    have hend := fun k hk => end_any hb hv k hk
    have hup := fun (w' : World) (v' : Value) (n' : Nat) hb' hby hrow hot hmv hle hn => MutOut.upd1 h hm (w' := w') (v' := v') (bs' := x.bs.take n') (n' := n') hb' hby hrow hot hmv hle hn
    obtain ⟨A, c, e1, -, hc, -⟩ := hv.rd
    have c0 := cell_blk hb 0; have c1 := cell_blk hb 1
    simp only [List.getElem?_toArray, List.getElem?_cons_succ, List.getElem?_cons_zero] at c0 c1
    rw [e1] at c0
    have hsame := MutOut.same h (c := 1)
    rw [show (val x).2.1 = x.bs from rfl]
    have HE := Lib.hid hend; have HU := Lib.hid hup; have HS := Lib.hid hsame
    clear hl hb hv e1 hc hend hup hsame
    by_cases hn0 : n < 0
    · rw [if_pos (.inl hn0)]
      go_enter Tryz.func95, Tryz.ntmps95
      go_wp2_with (first
        | (go_at_call 60; refine HF.out.mono ?_; rintro e w1 ⟨rfl, rfl⟩)
        | fail)
      go_ret
      exact HS.out
    · by_cases hn1 : (x.bs.length : Int) < n
      · rw [if_pos (.inr hn1)]
        go_enter Tryz.func95, Tryz.ntmps95
        go_wp2_with (first
          | (go_at_call 60; refine HF.out.mono ?_; rintro e w1 ⟨rfl, rfl⟩)
          | fail)
        go_ret
        exact HS.out
      · rw [if_neg (by omega)]
        obtain ⟨k, rfl⟩ : ∃ k : Nat, n = k := ⟨n.toNat, by omega⟩
        have hk : k ≤ x.bs.length := by omega
        simp only [Int.toNat_natCast]
        go_enter Tryz.func95, Tryz.ntmps95
        go_wp2_with (first
          | (go_at_call 60; refine HF.out.mono ?_; rintro e w1 ⟨rfl, rfl⟩)
          | (go_at_call 69; refine (HE.out k hk).mono ?_; rintro e w2 ⟨rfl, v', hb', hby, hrow, hot, hmv, hsz⟩)
          | fail)
        go_ret
        exact HU.out w2 v' k hb' hby hrow hot hmv (by rw [List.length_take]; omega) (by rw [List.length_take]; omega)
theorem remove_any (h : DiskE w db mb room es) (s : ByteArray) (hs : s.size ≤ maxLen) : Calls Tryz.prog 72 #[.pointer (some ⟨db, 0, none⟩), .string s] w (MutOut w db mb room es (remD (es.map val) s)) := by
  have HF := Lib.hid (find_any h s hs)
  unfold remD
  rw [look_val]
  cases hl : lookE es s with
  | none =>
    rw [hl] at HF
    simp only [findV] at HF
    simp only [Option.map_none]
    go_enter Tryz.func72, Tryz.ntmps72
    go_wp2_with (first
      | (go_at_call 60; refine HF.out.mono ?_; rintro e w1 ⟨rfl, rfl⟩)
      | fail)
    go_ret
    exact MutOut.same h
  | some x =>
    rw [hl] at HF
    simp only [findV] at HF
    simp only [Option.map_some]
    obtain ⟨hm, -⟩ := lookE_mem hl
    have c0 := cell_blk h.box 0; have c1 := cell_blk h.box 1
    simp only [List.getElem?_toArray, List.getElem?_cons_succ, List.getElem?_cons_zero] at c0 c1
    have HD := Lib.hid h
    clear hl hm h
    go_enter Tryz.func72, Tryz.ntmps72
    go_wp2_with (first
      | (go_at_call 60; refine HF.out.mono ?_; rintro e w1 ⟨rfl, rfl⟩)
      | (at_delete; go_must (refine wpList_del_ptr rfl _ _ 70 9 rfl 89 Tryz.underlying9 Tryz.underlying70 mb _ es rfl HD.out.map s rfl hs ?_; intro w2 hown2 hturn2))
      | fail)
    go_ret
    have h2 := HD.out.sub (delE_sub es s) hown2 (fun k _ hk => hturn2.grown.block k (HD.out.lt ‹_›) (fun e => hk (by injection e)))
    exact ⟨rfl, _, h2, (del_val es s).symm, (Mv.refl _ w).grown hturn2.grown (fun k _ e => by injection e with e; exact .inr (.inl e.symm)), fun k hk => .inl (foot_sub (fun e he => (delE_mem.1 he).1) hk)⟩
end
end
end
section
set_option linter.unusedVariables false
set_option linter.unusedSimpArgs false
open Go.Maps Go.RowKit
theorem title_size {s : ByteArray} (h : titleB (bl s) = true) : s.size ≤ 32 := by
  unfold titleB at h; rw [bl_len] at h; simp at h; omega
section
set_option maxHeartbeats 1600000
set_option maxRecDepth 100000
variable {w : World} {db mb room : Nat} {es : List Ent}
theorem DiskE.drewN (h : DiskE w db mb room es) (q : Nat) : DiskE (w.drewN q) db mb room es := h.moved fun k _ => rfl
theorem MutOut.sameN {c : Int} (h : DiskE w db mb room es) (q : Nat) : MutOut w db mb room es (c, es.map val) (.returned (.int .i64 c)) (w.drewN q) :=
  ⟨rfl, es, h.drewN q, rfl, (Mv.refl _ _).drewN q, fun k hk => .inl hk⟩
theorem MutOut.fromN {r : Int × List Fl} {e : Ending} {w' : World} {q : Nat} (h : MutOut (w.drewN q) db mb room es r e w') : MutOut w db mb room es r e w' := by
  obtain ⟨h1, es', h2, h3, h4, h5⟩ := h
  exact ⟨h1, es', h2, h3, ⟨h4.os, h4.tape, h4.output, h4.size, h4.block⟩, h5⟩
theorem MutOut.ren (h : DiskE w db mb room es) {x : Ent} (hm : x ∈ es) {t : ByteArray} (ht : t.size ≤ 32) {n : Nat} {w' : World} (hown : w'.ownsMap Tryz.prog 9 ptrE mb n (dmap (putE (delE es x.nm) { x with nm := t }))) (hturn : w.mapTurned w' mb) :
    MutOut w db mb room es (0, putL (delL (es.map val) x.nm) (t, x.bs, x.n)) (.returned (.int .i64 0)) w' := by
  have hsub : (delE (delE es x.nm) t).Sublist es := (delE_sub _ t).trans (delE_sub es x.nm)
  obtain ⟨hb, hv⟩ := h.at_ x hm
  obtain ⟨-, -, a3, a4⟩ := h.db_ne hm
  have hblk : ∀ k, foot db mb es k → k ≠ mb → w'.heap[k]? = w.heap[k]? := fun k hk hne => hturn.grown.block k (h.lt hk) (fun e => hne (by injection e))
  obtain ⟨l1, l2⟩ := del_len h.srt hm
  have l3 := lenL_sub ((delE_sub (delE es x.nm) t).map val)
  have l4 := (delE_sub (delE es x.nm) t).length_le
  have hD := h.add (w' := w') hsub (x := { x with nm := t }) (fun e he => (delE_mem.1 he).2) hown hblk ((hblk x.bx (.inr (.inr ⟨x, hm, .inl rfl⟩)) a3.symm).trans hb)
    (hv.moved fun g hg => hblk g (.inr (.inr ⟨x, hm, .inr hg⟩)) (fun e => a4 (e ▸ hg))) (fun e he => by
      have h1 := (delE_mem.1 (delE_mem.1 he).1)
      exact h.apart e h1.1 x hm h1.2) (by have := h.fits.1; show _ + x.bs.length ≤ room; omega) (by have := h.fits.2.2; omega) ⟨(h.each x hm).1, ht⟩
  refine ⟨rfl, _, hD, ?_, (Mv.refl _ w).grown hturn.grown (fun k _ e => by injection e with e; exact .inr (.inl e.symm)), fun k hk => .inl ?_⟩
  · rw [del_val]; exact (put_val (delE es x.nm) { x with nm := t }).symm
  · rcases hk with hk | hk | ⟨e, he, hk⟩
    · exact .inl hk
    · exact .inr (.inl hk)
    · rcases insE_mem.1 he with rfl | he
      · exact .inr (.inr ⟨x, hm, hk⟩)
      · exact .inr (.inr ⟨e, hsub.subset he, hk⟩)
end
end
end Go.Proofs.YtnmbjhpecblioaaGreatDoor
