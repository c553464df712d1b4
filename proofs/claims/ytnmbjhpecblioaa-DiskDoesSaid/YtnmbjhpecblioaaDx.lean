/-
  A disk's Clone.
-/
import Derived.Test.YtnmbjhpecblioaaDc
namespace Go.Proofs.Ytnmbjhpecblioaa
set_option linter.unusedVariables false
set_option linter.unusedSimpArgs false
open Go.Maps Go.RowKit
theorem run_makeFiles (k : Int) (w : World) : (Instr.makeMap 47 (some (.int .i64 k))).run Try.prog w = .ok (.map (some w.heap.size)) (w.alloc (.map #[] 0)) := by
  simp [Instr.makeMap, run_underlying Try.underlying47, asInt, asIntOf]
theorem insL_filter {left : Lit → Bool} {f : Fl} (hl : left (keyL f.1) = true) : ∀ {L : List Fl}, (L.Pairwise fun a b => bl a.1 < bl b.1) → f ∈ L → insL f (L.filter fun x => !left (keyL x.1)) = L.filter fun x => !struckE left f.1 (keyL x.1)
  | y :: r, hp, hf => by
    rw [List.pairwise_cons] at hp
    have hst : ∀ x : Fl, x.1 ≠ f.1 → struckE left f.1 (keyL x.1) = left (keyL x.1) := fun x hx => by rw [struckE_at]; simp [hx]
    rcases List.mem_cons.1 hf with rfl | hf
    · have hr : ∀ x ∈ r, x.1 ≠ f.1 := fun x hx e => by have := hp.1 x hx; rw [e] at this; exact ltB_irrefl _ this
      have e1 : (r.filter fun x => !struckE left f.1 (keyL x.1)) = r.filter fun x => !left (keyL x.1) := List.filter_congr fun x hx => by rw [hst x (hr x hx)]
      rw [List.filter_cons, List.filter_cons, e1, hl, struckE_at]
      simp only [decide_true, Bool.not_true, Bool.and_false, Bool.not_false, Bool.false_eq_true, if_false, if_true]
      cases hh : r.filter fun x => !left (keyL x.1) with
      | nil => rfl
      | cons z t =>
        have hz : z ∈ r := (List.mem_filter.1 (hh ▸ List.mem_cons_self : z ∈ r.filter fun x => !left (keyL x.1))).1
        unfold insL; rw [if_pos (hp.1 z hz)]
    · have hne : y.1 ≠ f.1 := fun e => by have := hp.1 f hf; rw [e] at this; exact ltB_irrefl _ this
      have ih := insL_filter hl hp.2 hf
      rw [List.filter_cons, List.filter_cons, hst y hne, ← ih]
      cases left (keyL y.1) with
      | true => rfl
      | false =>
        simp only [Bool.not_false, if_true]
        rw [insL, if_neg (ltB_asymm (hp.1 f hf))]
theorem cell_turned {P : Program} {k : TypeId} {R : Value → Option (DD × List MemPlace)} {w w' : World} {mb n : Nat} {D : DD} (hm : w.ownsMap P k R mb n D) (ht : w.mapTurned w' mb) {g o : Nat} {v : Value} (hc : w.cell? ⟨g, o, none⟩ = some v) : w'.cell? ⟨g, o, none⟩ = some v := by
  have hr : Rd w (some ⟨g, o, none⟩) [v] := by
    intro i u hu
    cases i with
    | zero => injection hu with hu; subst hu; exact ⟨g, o, rfl, hc⟩
    | succ i => simp at hu
  obtain ⟨b', off', e, h⟩ := hr.turned hm ht 0 v rfl
  injection e with e; injection e with e1 e2 _; subst e1; subst e2
  exact h
theorem store_ptr {w : World} {b n : Nat} {es : List Ent} (h : w.ownsMap Try.prog 9 ptrE b n (dmap es)) (hn : n < maxLen) (x : Ent) (hs : x.nm.size ≤ maxLen) :
    ∃ w', (Instr.mapUpdate 47 (.map (some b)) (.string x.nm) (.pointer (some ⟨x.bx, 0, none⟩))).run Try.prog w = .ok () w' ∧ w'.ownsMap Try.prog 9 ptrE b (n + 1) (dmap (putE es x)) ∧ w.mapTurned w' b := by
  obtain ⟨w', h1, h2, h3⟩ := h.store (string_keyed Try.underlying9) Try.underlying47 hn (key_of Try.underlying9 hs) (ptrE_some x.bx)
  rw [put_dmap] at h2
  exact ⟨w', h1, h2, h3⟩
theorem DiskE.iter {w : World} {db mb room r : Nat} {es : List Ent} (h : DiskE w db mb room es) {m : Option Nat} {a c : Nat} {b : Array Nat} (hr : w.heap[r]? = some (.mapIter m a b c)) {k : Nat} (hk : foot db mb es k) : k ≠ r := by
  rintro rfl
  rcases hk with rfl | rfl | ⟨e, he, rfl | hg⟩
  · rw [h.box] at hr; cases hr
  · obtain ⟨x, y, hb, _⟩ := h.map; rw [hb] at hr; cases hr
  · rw [(h.at_ e he).1] at hr; cases hr
  · obtain ⟨cs, hb⟩ := (h.at_ e he).2.blk hg; rw [hb] at hr; cases hr
theorem ranges_iter {P : Program} {k : TypeId} {R : Value → Option (DD × List MemPlace)} {w : World} {b r n : Nat} {D : DD} {left : Lit → Bool} {cnt : Nat} (h : w.ranges P k R b r n D left cnt) : ∃ m a x c, w.heap[r]? = some (.mapIter m a x c) := by
  obtain ⟨_, _, s, x, c, _, _, _, _, hr, _⟩ := h
  exact ⟨_, s, x, c, hr⟩
theorem filter_start (es : List Ent) : (es.map val).filter (fun f => !Maps.has (dmap es) (keyL f.1)) = [] := by
  rw [List.filter_eq_nil_iff]
  intro f hf
  obtain ⟨e, he, rfl⟩ := List.mem_map.1 hf
  show ¬ (!Maps.has (dmap es) (keyL e.nm)) = true
  rw [has_dmap]
  cases hh : lookE es e.nm with
  | none => exact absurd rfl (lookE_none hh e he)
  | some x => simp
theorem srt_bl {es : List Ent} (h : SrtE es) : (es.map val).Pairwise fun a b => bl a.1 < bl b.1 := by rw [List.pairwise_map]; exact h
section
set_option maxHeartbeats 1600000
set_option maxRecDepth 100000
variable {w : World} {db mb room : Nat} {es : List Ent}
theorem clone_any (h : DiskE w db mb room es) : Calls Try.prog 7 #[.pointer (some ⟨db, 0, none⟩)] w fun e w' => ∃ cdb cmb cur, e = .returned (.pointer (some ⟨cdb, 0, none⟩)) ∧
    DiskE w' cdb cmb room cur ∧ cur.map val = es.map val ∧ (∀ k, foot cdb cmb cur k → w.heap.size ≤ k) ∧ Below w.heap.size w w' := by
  have HM := Lib.hid (made_any h.box)
  have d0 := cell_blk h.box 0; have d1 := cell_blk h.box 1
  simp only [List.getElem?_toArray, List.getElem?_cons_succ, List.getElem?_cons_zero] at d0 d1
  have hS : ∀ W', Below w.heap.size w W' → W'.cell? ⟨db, 0, none⟩ = some (.map (some mb)) ∧ W'.cell? ⟨db, 1, none⟩ = some (.int .i64 (room : Nat)) ∧ ∀ ty, (Builtin.len_ #[47] ty #[.map (some mb)]).run Try.prog W' = .ok (.int .i64 (es.length : Nat)) W' := fun W' hb =>
    ⟨cell_blk (h.below hb).box 0, cell_blk (h.below hb).box 1, fun ty => by have := (h.below hb).map.len Try.underlying47 ty; rwa [size_dmap] at this⟩
  have HS := Lib.hid hS
  have hlm := (hS w (Below.refl _ _)).2.2
  have hb0 := (Below.refl w.heap.size w).alloc (Nat.le_refl _) (.map #[] 0)
  have HB0 := Lib.hid hb0
  have HB1 := Lib.hid (hb0.alloc (by simp) (.cells #[.map (some w.heap.size), .int .i64 (room : Nat)] 49))
  clear hS hb0
  have HD := Lib.hid h
  have hmk := run_makeFiles
  have hmbs : mb < w.heap.size := h.map.lt
  clear h
  go_enter Try.func7, Try.ntmps7
  go_wp2_with (first
    | (go_at_call 20; refine HM.out.mono ?_; rintro e w1 ⟨rfl, rfl⟩)
    | fail)
  go_region_held3 (fun W' => W'.cell? ⟨db, 0, none⟩ = some (.map (some mb)) ∧ W'.cell? ⟨db, 1, none⟩ = some (.int .i64 (room : Nat)) ∧ ∀ ty, (Builtin.len_ #[47] ty #[.map (some mb)]).run Try.prog W' = .ok (.int .i64 (es.length : Nat)) W') (first | exact HS.out _ (Below.refl _ _) | exact HS.out _ HB0.out | exact HS.out _ HB1.out | exact HS.out _ (below_drewN (Below.refl _ _) 1) | exact HS.out _ (below_drewN HB0.out 1) | exact HS.out _ (below_drewN HB1.out 1)) (fail)
  obtain ⟨W, hW⟩ : ∃ W, W = ((w.alloc (.map #[] 0)).alloc (.cells #[.map (some w.heap.size), .int .i64 (room : Nat)] 49)).drew := ⟨_, rfl⟩
  have hBW : Below w.heap.size w W := by rw [hW]; exact below_drewN HB1.out 1
  have hC0 : DiskE W (w.heap.size + 1) w.heap.size room [] := by rw [hW]; exact (diskE_new w room HD.out.fits.2.1).drewN 1
  rw [← hW]
  clear hW
  obtain ⟨cmb, hcmb⟩ : ∃ c, c = w.heap.size := ⟨_, rfl⟩
  obtain ⟨cdb, hcdb⟩ : ∃ c, c = w.heap.size + 1 := ⟨_, rfl⟩
  rw [← hcdb]
  rw [← hcdb, ← hcmb] at hC0
  have hF0 : ∀ k, foot cdb cmb [] k → w.heap.size ≤ k := by
    rintro k (h | h | ⟨e, he, _⟩)
    · omega
    · omega
    · simp at he
  have hw1 := hBW.size
  have HDW := Lib.hid (HD.out.below hBW)
  have HBW := Lib.hid hBW; have HC0 := Lib.hid hC0; have HF0 := Lib.hid hF0
  have HCM := Lib.hid (And.intro hcmb hcdb)
  obtain ⟨g0, g1, -⟩ := HS.out W hBW
  clear hBW hC0 hF0 hcmb hcdb HS HB0 HB1 d0 d1 hlm hmk
  go_wp2_with (first
    | (at_range; refine wpList_range_own _ rfl _ 47 rfl 9 52 (string_keyed Try.underlying9) Try.underlying47 ptrE mb es.length (dmap es) rfl HDW.out.map ?_; intro w0 hrg0 hg0 hs0)
    | fail)
  go_frame
  have hB0 : Below W.heap.size W w0 := (Below.refl _ W).grown hg0 (Nat.le_refl _) (fun k h => by cases h)
  have HB0 := Lib.hid (HBW.out.trans (hB0.mono hw1))
  have HD0 := Lib.hid (HC0.out.below hB0)
  have HR0 := Lib.hid hrg0
  have HST := Lib.hid (filter_start es).symm
  clear hrg0 hB0 hg0
  go_loopw [26] (fun _ wr => ∃ (left : Lit → Bool) (cnt : Nat) (cur : List Ent), Aside (wr.ranges Try.prog 9 ptrE mb W.heap.size es.length (dmap es) left cnt) ∧ Aside (cur.map val = (es.map val).filter fun f => !left (keyL f.1)) ∧ Aside (DiskE wr cdb cmb room cur) ∧ Aside (Below w.heap.size w wr) ∧ Aside (∀ k, foot cdb cmb cur k → w.heap.size ≤ k)) (fun _ wr => wr.rangeLeft mb W.heap.size)
  case atStart => exact ⟨_, _, [], HR0.out, HST.out, HD0.out, HB0.out, HF0.out⟩
  case round =>
    obtain ⟨left, cnt, cur, RG, CE, DC, BW, FT⟩ := hrel
    go_wp2_with (first
      | (at_next; refine wpList_next_ptr rfl _ rfl 9 Try.underlying9 mb _ es.length es left cnt rfl RG.out ?_ ?_)
      | fail)
    · intro hl
      go_wp2
      go_ret
      exact ⟨cdb, cmb, cur, rfl, DC.out, by rw [CE.out, List.filter_eq_self]; intro f _; rw [hl]; rfl, FT.out, BW.out⟩
    · intro e w1 cnt1 he hle hrg1 hlt hg1 hs1 hen
      obtain ⟨im, ia, ix, ic, hit⟩ := ranges_iter RG.out
      have C1 : DiskE w1 cdb cmb room cur := DC.out.moved fun k hk => hg1.block k (DC.out.lt hk) (fun e => DC.out.iter hit hk (by injection e))
      have B1 : Below w.heap.size w w1 := BW.out.grown hg1 BW.out.size (fun k h => by injection h with h; omega)
      have hw2 := B1.size
      obtain ⟨hb, hv⟩ := (HD.out.below B1).at_ e he
      obtain ⟨A, c, e1, hr, hc, hA⟩ := hv.rd
      have hln := HD.out.len he
      have hS2 : ∀ W', Below w1.heap.size w1 W' → W'.cell? ⟨cdb, 0, none⟩ = some (.map (some cmb)) ∧ W'.cell? ⟨e.bx, 0, none⟩ = some (.slice A e.bs.length c) ∧ W'.cell? ⟨e.bx, 1, none⟩ = some (.int .i64 (e.n : Nat)) := fun W' hb' =>
        ⟨cell_blk (C1.below hb').box 0, by rw [← e1]; exact cell_blk ((hb'.block _ (blk_lt hb)).trans hb) 0, cell_blk ((hb'.block _ (blk_lt hb)).trans hb) 1⟩
      have hcl : ∀ W', Below w1.heap.size w1 W' → Calls Try.prog 21 #[.slice A e.bs.length c] W' fun e9 w' => ∃ A' c', e9 = .returned (.slice A' e.bs.length c') ∧ w'.ownsRow W'.heap.size 5 1 (.slice A' e.bs.length c') e.bs.length (e.bs.map Bv) ∧ RowKit.Below W'.heap.size W' w' := fun W' hb' =>
        bclone_any A c e.bs W' (hr.below hb') (fun ea => by have := hA ea; exact List.eq_nil_of_length_eq_zero (by omega)) (by omega)
      have HS2 := Lib.hid hS2; have HCL := Lib.hid hcl
      have HBc := Lib.hid (Below.refl w1.heap.size w1)
      have HC1 := Lib.hid C1; have HB1 := Lib.hid B1; have HR1 := Lib.hid hrg1; have HLT := Lib.hid hlt; have HLE := Lib.hid hle
      have HEE := Lib.hid he
      clear C1 B1 hb hv e1 hr hc hA hS2 hcl hrg1 hlt hle hit hg1 he
      go_wp2_with fail
      go_region_held3 (fun W' => W'.cell? ⟨cdb, 0, none⟩ = some (.map (some cmb)) ∧ W'.cell? ⟨e.bx, 0, none⟩ = some (.slice A e.bs.length c) ∧ W'.cell? ⟨e.bx, 1, none⟩ = some (.int .i64 (e.n : Nat))) (first | exact HS4.out | exact HS2.out _ HBc.out | exact HS2.out _ (below_drewN HBc.out 1) | exact HS2.out _ (HBc.out.alloc HBc.out.size _) | exact HS2.out _ (below_drewN (HBc.out.alloc HBc.out.size _) 1)) (first
        | (go_at_call 21; (with_reducible refine (HCL.out _ ?_).mono ?_); (focus (first | exact HBc.out | exact below_drewN HBc.out _)); go_must (rintro e9 wq ⟨Aq, cq, rfl, hoq, hbq⟩; have hoq1 := hoq.lower (show w1.heap.size ≤ _ from HBc.out.size); (try (have hq1 := undrewD hbq; clear hbq; have hbq := hq1; clear hq1)); have hq1 := HBc.out.trans (hbq.mono HBc.out.size); have HBc := Lib.hid hq1; have HOQ := Lib.hid hoq1; clear hq1 hbq hoq hoq1; obtain ⟨w4, hrun4, hown4, hturn4⟩ := store_ptr (HC1.out.below (HBc.out.alloc HBc.out.size (.cells #[.slice Aq e.bs.length cq, .int .i64 (e.n : Nat)] 55))).map (by have := HC1.out.fits.2.2; unfold maxLen; omega) ⟨e.nm, wq.heap.size, .slice Aq e.bs.length cq, e.bs, e.n⟩ (by have := (HD.out.each e HEE.out).2; unfold maxLen; exact Nat.le_trans this (by decide)); obtain ⟨s1, s2, s3⟩ := HS2.out _ (HBc.out.alloc HBc.out.size (.cells #[.slice Aq e.bs.length cq, .int .i64 (e.n : Nat)] 55)); have hmq := (HC1.out.below (HBc.out.alloc HBc.out.size (.cells #[.slice Aq e.bs.length cq, .int .i64 (e.n : Nat)] 55))).map; have HS4 := Lib.hid (And.intro (cell_turned hmq hturn4 s1) (And.intro (cell_turned hmq hturn4 s2) (cell_turned hmq hturn4 s3))); have HW4 := Lib.hid hown4; have HT4 := Lib.hid hturn4; clear hown4 hturn4 hmq s1 s2 s3))
        | fail)
      have hbx := HBc.out.alloc HBc.out.size (.cells #[.slice Aq e.bs.length cq, .int .i64 (e.n : Nat)] 55)
      have hC := HC1.out.below hbx
      have hq1 := HBc.out.size
      have hmem : val e ∈ es.map val := List.mem_map.2 ⟨e, HEE.out, rfl⟩
      have hins : insL (val e) (cur.map val) = (es.map val).filter fun x => !struckE left e.nm (keyL x.1) := by
        rw [CE.out]; exact insL_filter (f := val e) HLE.out (srt_bl HD.out.srt) hmem
      have hne : ∀ f ∈ cur, f.nm ≠ e.nm := fun f hf en => by
        have h1 : val f ∈ (es.map val).filter fun x => !left (keyL x.1) := by rw [← CE.out]; exact List.mem_map.2 ⟨f, hf, rfl⟩
        have h2 := (List.mem_filter.1 h1).2
        have h3 : left (keyL (val f).1) = true := by show left (keyL f.nm) = true; rw [en]; exact HLE.out
        rw [h3] at h2; cases h2
      have hlk : lookE cur e.nm = none := by
        unfold lookE; rw [List.find?_eq_none]; intro f hf; simp [hne f hf]
      have hown : w4.ownsMap Try.prog 9 ptrE cmb (cur.length + 1) (dmap (insE ⟨e.nm, wq.heap.size, .slice Aq e.bs.length cq, e.bs, e.n⟩ cur)) := by
        have := HW4.out
        unfold putE at this
        rwa [delE_none hlk] at this
      have hperm := (insE_perm (⟨e.nm, wq.heap.size, .slice Aq e.bs.length cq, e.bs, e.n⟩ : Ent) cur)
      have hiv : insL (val e) (cur.map val) = (insE ⟨e.nm, wq.heap.size, .slice Aq e.bs.length cq, e.bs, e.n⟩ cur).map val := ins_val ⟨e.nm, wq.heap.size, .slice Aq e.bs.length cq, e.bs, e.n⟩ cur
      have hle1 : lenL (cur.map val) + e.bs.length ≤ room := by
        have h1 := lenL_sub (List.filter_sublist (p := fun x : Fl => !struckE left e.nm (keyL x.1)) (l := es.map val))
        rw [← hins, hiv, lenL_perm (hperm.map val), List.map_cons, lenL_cons] at h1
        have h2 := HD.out.fits.1
        have h3 : (val (⟨e.nm, wq.heap.size, .slice Aq e.bs.length cq, e.bs, e.n⟩ : Ent)).2.1.length = e.bs.length := rfl
        omega
      have hle2 : cur.length < 64 := by
        have h1 := (List.filter_sublist (p := fun x : Fl => !struckE left e.nm (keyL x.1)) (l := es.map val)).length_le
        rw [← hins, hiv, List.length_map, insE_len, List.length_map] at h1
        have h2 := HD.out.fits.2.2
        omega
      have hblk : ∀ k, k < wq.heap.size + 1 → k ≠ cmb → w4.heap[k]? = (wq.alloc (.cells #[.slice Aq e.bs.length cq, .int .i64 (e.n : Nat)] 55)).heap[k]? := fun k hk hn => HT4.out.grown.block k (by rw [World.size_alloc]; exact hk) (fun e1 => hn (by injection e1))
      have hcl := HC1.out.map.lt
      have hby : BytesAt w4 (.slice Aq e.bs.length cq) e.bs := by
        have h1 : BytesAt wq (.slice Aq e.bs.length cq) e.bs := .inl (HOQ.out.lower (Nat.zero_le _))
        refine h1.moved fun g hg => ?_
        have hlt := h1.lt hg
        obtain ⟨cs, hgb⟩ := h1.blk hg
        exact (hblk g (by omega) (by have := (HOQ.out.lt g hg).1; omega)).trans (Below.heap_alloc wq _ g hlt)
      have hD4 := hC.add (w' := w4) (List.Sublist.refl cur) (x := ⟨e.nm, wq.heap.size, .slice Aq e.bs.length cq, e.bs, e.n⟩) hne hown (fun k hk hn => hblk k (by have := HC1.out.lt hk; omega) hn) ((hblk _ (by show wq.heap.size < _; omega) (by show wq.heap.size ≠ cmb; omega)).trans (heap_alloc_new wq _)) hby
        (fun f hf => ⟨by have := blk_lt (HC1.out.at_ f hf).1; show f.bx ≠ wq.heap.size; omega, fun g hg hg2 => by
          have h1 := (HC1.out.at_ f hf).2.lt hg
          have h2 := (HOQ.out.lt g hg2).1
          omega⟩) hle1 hle2 (HD.out.each e HEE.out)
      obtain ⟨hcm1, hcm2⟩ := HCM.out
      obtain ⟨jm, ja, jx, jc, jit⟩ := ranges_iter HR1.out
      have hrk := (((HR1.out.kept (row := none) ⟨HBc.out.os, HBc.out.tape, HBc.out.output, HBc.out.size, fun i hi _ => HBc.out.block i hi⟩ (by simp) (by simp)).alloc (.cells #[.slice Aq e.bs.length cq, .int .i64 (e.n : Nat)] 55)).kept HT4.out.grown (fun e1 => by injection e1; omega) (fun e1 => by injection e1 with e1; exact HC1.out.iter jit (.inr (.inl rfl)) e1.symm))
      have hB4 : Below w.heap.size w w4 := (HB1.out.trans (hbx.mono hw2)).grown HT4.out.grown (Nat.le_trans hw2 (by simp; omega)) (fun k e1 => by injection e1 with e1; omega)
      have hF4 : ∀ k, foot cdb cmb (insE ⟨e.nm, wq.heap.size, .slice Aq e.bs.length cq, e.bs, e.n⟩ cur) k → w.heap.size ≤ k := by
        rintro k (h | h | ⟨f, hf, h⟩)
        · omega
        · omega
        · rcases insE_mem.1 hf with rfl | hf
          · rcases h with h | h
            · have : k = wq.heap.size := h
              omega
            · have := (HOQ.out.lt k h).1; omega
          · exact FT.out k (.inr (.inr ⟨f, hf, h⟩))
      have HV4 := Lib.hid (hiv.symm.trans hins); have HD4 := Lib.hid hD4; have HRK := Lib.hid hrk; have HB4 := Lib.hid hB4; have HF4 := Lib.hid hF4
      go_roundw
      case rel =>
        repeat (apply Exists.intro)
        refine And.intro ?_ rfl
        exact ⟨struckE left e.nm, cnt1, _, HRK.out, HV4.out, HD4.out, HB4.out, HF4.out⟩
      case measure => rw [HRK.out.left_eq, RG.out.left_eq]; exact HLT.out
end
end Go.Proofs.Ytnmbjhpecblioaa
