/-
  A disk's Append.
-/
import Derived.Deep.RegionHeld3
import Derived.Test.YtnmbjhpecblioaaGreatDoorDe
import Derived.Test.YtnmbjhpecblioaaGreatDoorDs
namespace Go.Proofs.YtnmbjhpecblioaaGreatDoor
set_option linter.unusedVariables false
set_option linter.unusedSimpArgs false
open Go.Maps Go.RowKit
theorem _root_.Go.Proofs.YtnmbjhpecblioaaGreatDoor.Rd.turned {P : Program} {k : TypeId} {R : Value → Option (DD × List MemPlace)} {w w' : World} {mb n : Nat} {D : DD} {A : Option Addr} {xs : List Value} (h : Rd w A xs) (hm : w.ownsMap P k R mb n D) (ht : w.mapTurned w' mb) : Rd w' A xs := by
  intro i v hv
  obtain ⟨b, off, rfl, hc⟩ := h i v hv
  have hb : b ≠ mb := by
    intro e; subst e
    obtain ⟨m, clock, hb, _⟩ := hm
    simp [World.cell?, hb] at hc
  refine ⟨b, off, rfl, ?_⟩
  rw [World.cell?_of_block (a := ⟨b, off + i, none⟩) (w := w) (ht.grown.block b (World.block_lt_of_cell? w _ hc) (fun e => hb (by injection e)))]
  exact hc
theorem undrewD {w w' : World} (m : Below w.drew.heap.size w.drew w') : Below w.heap.size w w' := ⟨m.os, m.tape, m.output, m.size, m.block⟩
theorem upd_len_eq {s : ByteArray} {f : Fl} : ∀ {L : List Fl}, lookL L s = some f → ∀ x : Fl, x.1 = s → (L.Pairwise fun a b => a.1 ≠ b.1) → lenL (updL L x) + f.2.1.length = lenL L + x.2.1.length
  | y :: r, hl, x, hx, hp => by
    rw [List.pairwise_cons] at hp
    unfold lookL at hl
    rw [List.find?_cons] at hl
    show lenL ((if y.1 = x.1 then x else y) :: updL r x) + _ = _
    rw [lenL_cons, lenL_cons]
    by_cases hy : y.1 = s
    · rw [decide_eq_true hy] at hl
      injection hl with hl
      rw [if_pos (hy.trans hx.symm)]
      have : updL r x = r := by
        unfold updL
        refine (List.map_congr_left fun z hz => ?_).trans (List.map_id r)
        rw [if_neg fun e => hp.1 z hz (by rw [hy, e, hx])]; rfl
      rw [this, hl]; omega
    · rw [decide_eq_false hy] at hl
      have := upd_len_eq (s := s) (f := f) (L := r) hl x hx hp.2
      rw [if_neg fun e => hy (e.trans hx)]; omega
theorem upd_ins {x x' : Ent} (hn : x'.nm = x.nm) : ∀ {es : List Ent}, (∀ e ∈ es, e.nm ≠ x.nm) → updE (insE x es) x' = insE x' es
  | [], _ => by simp [insE, updE, hn]
  | y :: r, h => by
    have h1 : ¬ y.nm = x'.nm := by rw [hn]; exact h y (by simp)
    have h2 : updE r x' = r := by
      unfold updE
      refine (List.map_congr_left fun z hz => ?_).trans (List.map_id r)
      rw [if_neg (by rw [hn]; exact h z (by simp [hz]))]; rfl
    unfold insE
    rw [hn]
    by_cases hlt : bl x.nm < bl y.nm
    · rw [if_pos hlt, if_pos hlt]
      show (if x.nm = x'.nm then x' else x) :: (if y.nm = x'.nm then x' else y) :: updE r x' = _
      rw [if_pos hn.symm, if_neg h1, h2]
    · rw [if_neg hlt, if_neg hlt]
      show (if y.nm = x'.nm then x' else y) :: updE (insE x r) x' = _
      rw [if_neg h1, upd_ins hn fun e he => h e (by simp [he])]
section
variable {w : World} {db mb room : Nat} {es : List Ent}
theorem DiskE.append (h : DiskE w db mb room es) {x : Ent} (hm : x ∈ es) {w1 : World} {v' : Value} {ys : List UInt8} (hby : BytesAt w1 v' (x.bs ++ ys)) (hg : w.grownBy w1 x.v.ownBlock)
    (hloc : ∀ g, v'.ownBlock = some g → x.v.ownBlock = some g ∨ w.heap.size ≤ g) (hfit : lenL (es.map val) + ys.length ≤ room) :
    DiskE (w1.setCell ⟨x.bx, 0, none⟩ v') db mb room (updE es { x with v := v', bs := x.bs ++ ys }) ∧ Mv (foot db mb es) w (w1.setCell ⟨x.bx, 0, none⟩ v') ∧ ∀ k, foot db mb (updE es { x with v := v', bs := x.bs ++ ys }) k → foot db mb es k ∨ w.heap.size ≤ k := by
  obtain ⟨hb, hv⟩ := h.at_ x hm
  have hlt : x.bx < w.heap.size := blk_lt hb
  have hb1 := (hg.block x.bx hlt (fun e => h.bx_ne hm hm e.symm)).trans hb
  have hl := lookE_of h.srt hm
  refine ⟨h.upd (x' := { x with v := v', bs := x.bs ++ ys }) hm rfl rfl (set_box0 hb1) (hby.moved fun g hg => set_other _ _ _ _ (fun e => hby.ne hb1 (by decide) (e ▸ hg))) hloc (fun k hk hne hne2 => (set_other _ _ _ _ hne).trans (hg.block k (h.lt hk) (fun e => hne2 e.symm))) ?_ ?_, ?_, ?_⟩
  · have h1 : lenL ((updE es { x with v := v', bs := x.bs ++ ys }).map val) + x.bs.length = lenL (es.map val) + (x.bs ++ ys).length := by
      rw [← upd_val]
      exact upd_len_eq (s := x.nm) (f := val x) (L := es.map val) (by rw [look_val, hl]; rfl) (val { x with v := v', bs := x.bs ++ ys }) rfl (srt_fst h.srt)
    rw [List.length_append] at h1
    omega
  · have := (h.each x hm).1; show x.n ≤ (x.bs ++ ys).length; rw [List.length_append]; omega
  · refine ((Mv.refl _ w).grown hg (fun k _ e => .inr (.inr ⟨x, hm, .inr e⟩))).setCell (p := ⟨x.bx, 0, none⟩) (fun _ => .inr (.inr ⟨x, hm, .inl rfl⟩)) _
  · rintro k (hk | hk | ⟨e, he, hk⟩)
    · exact .inl (.inl hk)
    · exact .inl (.inr (.inl hk))
    · rcases updE_mem he with ⟨rfl, -⟩ | ⟨he, -⟩
      · rcases hk with hk | hk
        · exact .inl (.inr (.inr ⟨x, hm, .inl hk⟩))
        · rcases hloc k hk with h1 | h1
          · exact .inl (.inr (.inr ⟨x, hm, .inr h1⟩))
          · exact .inr h1
      · exact .inl (.inr (.inr ⟨e, he, hk⟩))
end
section
set_option maxHeartbeats 1600000
set_option maxRecDepth 100000
variable {w : World} {db mb room : Nat} {es : List Ent}
theorem MutOut.sameB {c : Int} (h : DiskE w db mb room es) {w' : World} (hb : Below w.heap.size w w') : MutOut w db mb room es (c, es.map val) (.returned (.int .i64 c)) w' :=
  ⟨rfl, es, h.below hb, rfl, Mv.of_below hb _, fun k hk => .inl hk⟩
theorem MutOut.app (h : DiskE w db mb room es) {w1 : World} (hB : Below w.heap.size w w1) {x : Ent} (hm : x ∈ es) {w2 : World} {v' : Value} {ys : List UInt8} (hby : BytesAt w2 v' (x.bs ++ ys)) (hg : w1.grownBy w2 x.v.ownBlock)
    (hloc : ∀ g, v'.ownBlock = some g → x.v.ownBlock = some g ∨ w1.heap.size ≤ g) (hfit : lenL (es.map val) + ys.length ≤ room) :
    MutOut w db mb room es (0, updL (es.map val) (x.nm, x.bs ++ ys, x.n)) (.returned (.int .i64 0)) (w2.setCell ⟨x.bx, 0, none⟩ v') := by
  obtain ⟨h1, h2, h3⟩ := (h.below hB).append hm hby hg hloc hfit
  refine ⟨rfl, _, h1, (upd_val es { x with v := v', bs := x.bs ++ ys }).symm, (Mv.of_below hB _).trans h2 (fun _ _ hk => hk), fun k hk => ?_⟩
  rcases h3 k hk with hk | hk
  · exact .inl hk
  · exact .inr (Nat.le_trans hB.size hk)
def newE (s : ByteArray) (g : Nat) : Ent := ⟨s, g, .slice none 0 0, [], 0⟩
theorem DiskE.new (h : DiskE w db mb room es) {s : ByteArray} (hl : lookE es s = none) (hs : s.size ≤ 32) (h64 : es.length < 64) {n : Nat} {w' : World}
    (hown : w'.ownsMap Tryz.prog 9 ptrE mb n (dmap (putE es (newE s w.heap.size)))) (hturn : (w.alloc (.cells #[.slice none 0 0, .int .i64 0] 92)).mapTurned w' mb) : DiskE w' db mb room (insE (newE s w.heap.size) es) ∧ newE s w.heap.size ∈ insE (newE s w.heap.size) es := by
  have hput : putE es (newE s w.heap.size) = insE (newE s w.heap.size) es := by
    show insE _ (delE es s) = _
    rw [delE_none hl]
  rw [hput] at hown
  have h9 : DiskE (w.alloc (.cells #[.slice none 0 0, .int .i64 0] 92)) db mb room es := h.below ((Below.refl _ w).alloc (Nat.le_refl _) _)
  have hmb : mb < w.heap.size := h.map.lt
  have hblk : ∀ k, k < w.heap.size + 1 → k ≠ mb → w'.heap[k]? = (w.alloc (.cells #[.slice none 0 0, .int .i64 0] 92)).heap[k]? := fun k hk hne => hturn.grown.block k (by rw [World.size_alloc]; exact hk) (fun e => hne (by injection e))
  refine ⟨h9.add (w' := w') (List.Sublist.refl es) (x := newE s w.heap.size) (fun e he => lookE_none hl e he) hown (fun k hk hne => hblk k (by have := h.lt hk; omega) hne) ((hblk _ (by show w.heap.size < _; omega) (by show w.heap.size ≠ mb; omega)).trans (heap_alloc_new w _)) (BytesAt.nil w')
    (fun e he => ⟨?_, fun g hg => by simp [newE, Value.ownBlock]⟩) (by simp [newE]; exact h.fits.1) h64 ⟨by simp [newE], hs⟩, insE_mem.2 (.inl rfl)⟩
  have := blk_lt (h.at_ e he).1
  show e.bx ≠ w.heap.size
  omega
theorem MutOut.newapp (h : DiskE w db mb room es) {w1 : World} (hB : Below w.heap.size w w1) {s : ByteArray} (hl : lookE es s = none) {w2 : World} (hturn : (w1.alloc (.cells #[.slice none 0 0, .int .i64 0] 92)).mapTurned w2 mb)
    (h2 : DiskE w2 db mb room (insE (newE s w1.heap.size) es)) {w3 : World} {v' : Value} {ys : List UInt8} (hby : BytesAt w3 v' ([] ++ ys)) (hg : w2.grownBy w3 none)
    (hloc : ∀ g, v'.ownBlock = some g → none = some g ∨ w2.heap.size ≤ g) (hfit : lenL (es.map val) + ys.length ≤ room) :
    MutOut w db mb room es (0, putL (es.map val) (s, ys, 0)) (.returned (.int .i64 0)) (w3.setCell ⟨w1.heap.size, 0, none⟩ v') := by
  have hm := insE_mem.2 (.inl rfl : newE s w1.heap.size = newE s w1.heap.size ∨ newE s w1.heap.size ∈ es)
  have hfit2 : lenL ((insE (newE s w1.heap.size) es).map val) + ys.length ≤ room := by
    rw [lenL_perm ((insE_perm _ es).map val), List.map_cons, lenL_cons]
    show [].length + _ + _ ≤ _
    simp; omega
  obtain ⟨k1, k2, k3⟩ := h2.append (x := newE s w1.heap.size) hm (v' := v') (ys := ys) hby hg hloc hfit2
  have e2 : updE (insE (newE s w1.heap.size) es) { newE s w1.heap.size with v := v', bs := (newE s w1.heap.size).bs ++ ys } = insE ⟨s, w1.heap.size, v', ys, 0⟩ es := upd_ins (x := newE s w1.heap.size) (x' := ⟨s, w1.heap.size, v', ys, 0⟩) rfl (fun e he => lookE_none hl e he)
  have hs1 := hB.size
  have hs2 := hturn.grown.size
  rw [World.size_alloc] at hs2
  have hmv : Mv (foot db mb es) w w2 := (((Mv.of_below hB (foot db mb es)).alloc (.cells #[.slice none 0 0, .int .i64 0] 92)).grown hturn.grown (fun k _ e => by injection e with e; exact .inr (.inl e.symm)))
  refine ⟨rfl, _, k1, ?_, hmv.trans k2 (fun i hi hf => ?_), fun k hk => ?_⟩
  · rw [e2, show putL (es.map val) (s, ys, 0) = putL (es.map val) (val ⟨s, w1.heap.size, v', ys, 0⟩) from rfl, put_val]
    unfold putE; rw [delE_none hl]
  · rcases hf with hf | hf | ⟨e, he, hf⟩
    · exact .inl hf
    · exact .inr (.inl hf)
    · rcases insE_mem.1 he with rfl | he
      · rcases hf with hf | hf
        · have : i = w1.heap.size := hf; omega
        · simp [newE, Value.ownBlock] at hf
      · exact .inr (.inr ⟨e, he, hf⟩)
  · rcases k3 k hk with hf | hf
    · rcases hf with hf | hf | ⟨e, he, hf⟩
      · exact .inl (.inl hf)
      · exact .inl (.inr (.inl hf))
      · rcases insE_mem.1 he with rfl | he
        · rcases hf with hf | hf
          · have : k = w1.heap.size := hf
            exact .inr (by omega)
          · simp [newE, Value.ownBlock] at hf
        · exact .inl (.inr (.inr ⟨e, he, hf⟩))
    · exact .inr (by omega)
theorem append_any (h : DiskE w db mb room es) (s : ByteArray) (hs : s.size ≤ maxLen) (A : Option Addr) (c : Nat) (b : List UInt8) (hx : Rd w A (b.map Bv)) (hl : b.length ≤ 9000000000000000000) :
    Calls Tryz.prog 16 #[.pointer (some ⟨db, 0, none⟩), .string s, .slice A b.length c] w (MutOut w db mb room es (appD room (es.map val) s b)) := by
  have HM := Lib.hid (made_any h.box)
  have HN := Lib.hid (isname_any s w)
  have HSZ := Lib.hid (fun (W' : World) (hb : Below w.heap.size w W') => dsize_any (h.below hb))
  have HC := Lib.hid (show ∀ W', Below w.heap.size w W' → W'.cell? ⟨db, 0, none⟩ = some (.map (some mb)) ∧ W'.cell? ⟨db, 1, none⟩ = some (.int .i64 (room : Nat)) from fun W' hb => ⟨cell_blk (h.below hb).box 0, cell_blk (h.below hb).box 1⟩)
  have HBc := Lib.hid (Below.refl w.heap.size w)
  have d0 := cell_blk h.box 0; have d1 := cell_blk h.box 1
  simp only [List.getElem?_toArray, List.getElem?_cons_succ, List.getElem?_cons_zero] at d0 d1
  have HD := Lib.hid h; have HX := Lib.hid hx
  obtain ⟨hf1, hf2, hf3⟩ := h.fits
  obtain ⟨T, hT⟩ : ∃ T, T = lenL (es.map val) := ⟨_, rfl⟩
  rw [← hT] at HSZ hf1
  unfold appD
  rw [look_val, List.length_map, ← hT]
  have HT := Lib.hid hT
  have hlm := fun ty => h.map.len Tryz.underlying70 ty
  rw [size_dmap] at hlm
  clear h hx hT
  cases ht : titleB (bl s) with
  | false =>
    rw [ht] at HN
    rw [if_pos rfl]
    go_enter Tryz.func16, Tryz.ntmps16
    go_wp2_with (first
      | (go_at_call 51; refine HM.out.mono ?_; rintro e w1 ⟨rfl, rfl⟩)
      | (go_at_call 52; refine HN.out.mono ?_; rintro e w2 ⟨rfl, rfl⟩)
      | fail)
    go_ret
    exact MutOut.same HD.out
  | true =>
    rw [ht] at HN
    rw [if_neg (by simp)]
    have hts := title_size ht
    clear ht
    cases hlk : lookE es s with
    | none =>
      have HL := Lib.hid hlk; clear hlk
      simp only [Option.map_none]
      by_cases h64 : 64 ≤ es.length
      · rw [if_pos h64]
        have h64' : (64 : Int) ≤ (es.length : Int) := by omega
        go_enter Tryz.func16, Tryz.ntmps16
        go_wp2_with (first
          | (go_at_call 51; refine HM.out.mono ?_; rintro e w1 ⟨rfl, rfl⟩)
          | (go_at_call 52; refine HN.out.mono ?_; rintro e w2 ⟨rfl, rfl⟩)
          | (at_lookup; go_must (refine wpList_look_none rfl _ _ 70 rfl 9 89 Tryz.underlying9 Tryz.underlying70 (zeroPf _) mb _ es rfl HD.out.map s rfl hs HL.out ?_))
          | fail)
        go_ret
        exact MutOut.same HD.out
      · rw [if_neg h64]
        have h64' : ¬ (64 : Int) ≤ (es.length : Int) := by omega
        have q1 : IntKind.i64.wrap ((room : Int) - (T : Int)) = (room : Int) - (T : Int) := IntWalk.i64_in _ (by omega)
        by_cases hr : room < T + b.length
        · rw [if_pos hr]
          have q2 : decide ((room : Int) - (T : Int) < (b.length : Int)) = true := decide_eq_true (by omega)
          go_enter Tryz.func16, Tryz.ntmps16
          go_wp2_with (first
            | (go_at_call 51; refine HM.out.mono ?_; rintro e w1 ⟨rfl, rfl⟩)
            | (go_at_call 52; refine HN.out.mono ?_; rintro e w2 ⟨rfl, rfl⟩)
            | (at_lookup; go_must (refine wpList_look_none rfl _ _ 70 rfl 9 89 Tryz.underlying9 Tryz.underlying70 (zeroPf _) mb _ es rfl HD.out.map s rfl hs HL.out ?_))
            | fail)
          go_region_held3 (fun W' => W'.cell? ⟨db, 0, none⟩ = some (.map (some mb)) ∧ W'.cell? ⟨db, 1, none⟩ = some (.int .i64 (room : Nat))) (first | exact HC.out _ HBc.out | exact HC.out _ (below_drewN HBc.out _)) (first
            | (go_at_call 53; (with_reducible refine (HSZ.out _ ?_).mono ?_); (focus (first | exact HBc.out | exact below_drewN HBc.out _)); go_must (rintro e wq ⟨rfl, hbq⟩; (try (have hq1 := undrewD hbq; clear hbq; have hbq := hq1; clear hq1)); have hq1 := HBc.out.trans (hbq.mono HBc.out.size); have HBc := Lib.hid hq1; clear hq1 hbq))
            | fail)
          all_goals
            go_wp2
            go_ret
            exact MutOut.sameB HD.out HBc.out
        · rw [if_neg hr]
          have q2 : decide ((room : Int) - (T : Int) < (b.length : Int)) = false := decide_eq_false (by omega)
          go_enter Tryz.func16, Tryz.ntmps16
          go_wp2_with (first
            | (go_at_call 51; refine HM.out.mono ?_; rintro e w1 ⟨rfl, rfl⟩)
            | (go_at_call 52; refine HN.out.mono ?_; rintro e w2 ⟨rfl, rfl⟩)
            | (at_lookup; go_must (refine wpList_look_none rfl _ _ 70 rfl 9 89 Tryz.underlying9 Tryz.underlying70 (zeroPf _) mb _ es rfl HD.out.map s rfl hs HL.out ?_))
            | fail)
          go_region_held3 (fun W' => W'.cell? ⟨db, 0, none⟩ = some (.map (some mb)) ∧ W'.cell? ⟨db, 1, none⟩ = some (.int .i64 (room : Nat))) (first | exact HC.out _ HBc.out | exact HC.out _ (below_drewN HBc.out _)) (first
            | (go_at_call 53; (with_reducible refine (HSZ.out _ ?_).mono ?_); (focus (first | exact HBc.out | exact below_drewN HBc.out _)); go_must (rintro e wq ⟨rfl, hbq⟩; (try (have hq1 := undrewD hbq; clear hbq; have hbq := hq1; clear hq1)); have hq1 := HBc.out.trans (hbq.mono HBc.out.size); have HBc := Lib.hid hq1; clear hq1 hbq))
            | fail)
          have h8 := HD.out.below HBc.out
          have HX8 := Lib.hid (HX.out.below HBc.out)
          have HB9 := Lib.hid (HBc.out.alloc HBc.out.size (.cells #[.slice none 0 0, .int .i64 0] 92))
          obtain ⟨g0, g1⟩ := HC.out _ HB9.out
          have HM9 := Lib.hid (h8.map.alloc (.cells #[.slice none 0 0, .int .i64 0] 92))
          have H8 := Lib.hid h8
          clear h8
          go_wp2_with (first
            | (at_mapUpdate; go_must (refine wpList_put_ptr rfl _ _ _ 70 rfl 9 89 Tryz.underlying9 Tryz.underlying70 mb es.length es rfl HM9.out (by unfold maxLen; omega) (newE s wq.heap.size) rfl hs rfl ?_; intro w4 hown4 hturn4; obtain ⟨h4, hm4⟩ := H8.out.new HL.out hts (by omega) hown4 hturn4; have hb4 := (h4.at_ _ hm4).1; simp only [newE] at hb4; have a0 := cell_blk hb4 0; have a1 := cell_blk hb4 1; simp only [List.getElem?_toArray, List.getElem?_cons_succ, List.getElem?_cons_zero] at a0 a1; have HB4 := Lib.hid hb4; have H4 := Lib.hid h4; have HM4 := Lib.hid hm4; have HX4 := Lib.hid ((HX8.out.alloc (.cells #[.slice none 0 0, .int .i64 0] 92)).turned HM9.out hturn4); clear hb4 h4 hm4))
            | (at_builtin; go_must (refine wpList_append_bytes rfl _ _ rfl (.slice none 0 0) [] rfl (BytesAt.nil _) A c b rfl HX4.out (by simp; omega) ?_; intro v5 w5 hby5 hg5 hloc5; obtain ⟨A5, c5, e5, -, -, -⟩ := hby5.rd; obtain ⟨m5, hm5⟩ : ∃ m5, m5 = ([] ++ b).length := ⟨_, rfl⟩; rw [← hm5] at e5; subst e5; clear hm5; have hb5 := (hg5.block wq.heap.size (blk_lt HB4.out) (fun e => by cases e)).trans HB4.out; have b0 := cell_blk hb5 0; have k0 := free_blk hb5 0; simp only [List.getElem?_toArray, List.getElem?_cons_succ, List.getElem?_cons_zero] at b0; clear hb5))
            | fail)
          go_ret
          exact MutOut.newapp HD.out HBc.out HL.out hturn4 H4.out hby5 hg5 hloc5 (by rw [← HT.out]; omega)
    | some x =>
      have HL := Lib.hid hlk; clear hlk
      simp only [Option.map_some]
      have q1 : IntKind.i64.wrap ((room : Int) - (T : Int)) = (room : Int) - (T : Int) := IntWalk.i64_in _ (by omega)
      by_cases hr : room < T + b.length
      · rw [if_pos hr]
        have q2 : decide ((room : Int) - (T : Int) < (b.length : Int)) = true := decide_eq_true (by omega)
        go_enter Tryz.func16, Tryz.ntmps16
        go_wp2_with (first
          | (go_at_call 51; refine HM.out.mono ?_; rintro e w1 ⟨rfl, rfl⟩)
          | (go_at_call 52; refine HN.out.mono ?_; rintro e w2 ⟨rfl, rfl⟩)
          | (at_lookup; go_must (refine wpList_look_some rfl _ _ 70 rfl 9 89 Tryz.underlying9 Tryz.underlying70 (zeroPf _) mb _ es rfl HD.out.map s rfl hs x HL.out ?_))
          | fail)
        go_region_held3 (fun W' => W'.cell? ⟨db, 0, none⟩ = some (.map (some mb)) ∧ W'.cell? ⟨db, 1, none⟩ = some (.int .i64 (room : Nat))) (first | exact HC.out _ HBc.out | exact HC.out _ (below_drewN HBc.out _)) (first
          | (go_at_call 53; (with_reducible refine (HSZ.out _ ?_).mono ?_); (focus (first | exact HBc.out | exact below_drewN HBc.out _)); go_must (rintro e wq ⟨rfl, hbq⟩; (try (have hq1 := undrewD hbq; clear hbq; have hbq := hq1; clear hq1)); have hq1 := HBc.out.trans (hbq.mono HBc.out.size); have HBc := Lib.hid hq1; clear hq1 hbq))
          | fail)
        all_goals
          go_wp2
          go_ret
          exact MutOut.sameB HD.out HBc.out
      · rw [if_neg hr]
        have q2 : decide ((room : Int) - (T : Int) < (b.length : Int)) = false := decide_eq_false (by omega)
        go_enter Tryz.func16, Tryz.ntmps16
        go_wp2_with (first
          | (go_at_call 51; refine HM.out.mono ?_; rintro e w1 ⟨rfl, rfl⟩)
          | (go_at_call 52; refine HN.out.mono ?_; rintro e w2 ⟨rfl, rfl⟩)
          | (at_lookup; go_must (refine wpList_look_some rfl _ _ 70 rfl 9 89 Tryz.underlying9 Tryz.underlying70 (zeroPf _) mb _ es rfl HD.out.map s rfl hs x HL.out ?_))
          | fail)
        go_region_held3 (fun W' => W'.cell? ⟨db, 0, none⟩ = some (.map (some mb)) ∧ W'.cell? ⟨db, 1, none⟩ = some (.int .i64 (room : Nat))) (first | exact HC.out _ HBc.out | exact HC.out _ (below_drewN HBc.out _)) (first
          | (go_at_call 53; (with_reducible refine (HSZ.out _ ?_).mono ?_); (focus (first | exact HBc.out | exact below_drewN HBc.out _)); go_must (rintro e wq ⟨rfl, hbq⟩; (try (have hq1 := undrewD hbq; clear hbq; have hbq := hq1; clear hq1)); have hq1 := HBc.out.trans (hbq.mono HBc.out.size); have HBc := Lib.hid hq1; clear hq1 hbq))
          | fail)
        have h8 := HD.out.below HBc.out
        obtain ⟨hm, hnm⟩ := lookE_mem HL.out
        obtain ⟨hb8, hv8⟩ := h8.at_ x hm
        have c0 := cell_blk hb8 0; have c1 := cell_blk hb8 1
        simp only [List.getElem?_toArray, List.getElem?_cons_succ, List.getElem?_cons_zero] at c0 c1
        have hlen8 := HD.out.len hm
        have HB8 := Lib.hid hb8; have HV8 := Lib.hid hv8; have H8 := Lib.hid h8; have HMM := Lib.hid hm; have HNM := Lib.hid hnm
        have HX8 := Lib.hid (HX.out.below HBc.out)
        clear hb8 hv8 h8 hm hnm
        go_wp2_with (first
          | (at_builtin; go_must (refine wpList_append_bytes rfl _ _ rfl x.v x.bs rfl HV8.out A c b rfl HX8.out (by omega) ?_; intro v3 w3 hby3 hg3 hloc3; obtain ⟨A5, c5, e5, -, -, -⟩ := hby3.rd; obtain ⟨m5, hm5⟩ : ∃ m5, m5 = (x.bs ++ b).length := ⟨_, rfl⟩; rw [← hm5] at e5; subst e5; clear hm5; have hb3 := (hg3.block x.bx (blk_lt HB8.out) (fun e => H8.out.bx_ne HMM.out HMM.out e.symm)).trans HB8.out; have g0 := cell_blk hb3 0; have k0 := free_blk hb3 0; simp only [List.getElem?_toArray, List.getElem?_cons_succ, List.getElem?_cons_zero] at g0; clear hb3))
          | fail)
        go_ret
        have := MutOut.app HD.out HBc.out HMM.out hby3 hg3 hloc3 (by rw [← HT.out]; omega)
        rw [HNM.out] at this
        exact this
end
end Go.Proofs.YtnmbjhpecblioaaGreatDoor
