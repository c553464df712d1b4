/-
  A disk's Crash.
-/
import Derived.Test.YtnmbjhpecblioaaGreatDoorDp
namespace Go.Proofs.YtnmbjhpecblioaaGreatDoor
set_option linter.unusedVariables false
set_option linter.unusedSimpArgs false
open Go.Maps Go.RowKit
/-- A file, still to come or behind the crash. -/
def midF (keep : Int) (left : Lit → Bool) (f : Fl) : Option Fl := if left (keyL f.1) = true then some f else crashF keep f
theorem fm_congr {α β : Type} {g g' : α → Option β} : ∀ {L : List α}, (∀ x ∈ L, g x = g' x) → L.filterMap g = L.filterMap g'
  | [], _ => rfl
  | x :: r, h => by
    rw [List.filterMap_cons, List.filterMap_cons, h x (by simp), fm_congr fun y hy => h y (by simp [hy])]
theorem crashF_name {keep : Int} {f g : Fl} (h : crashF keep f = some g) : g.1 = f.1 := by
  unfold crashF at h
  split at h
  · cases h
  · injection h with h; rw [← h]
theorem midF_name {keep : Int} {left : Lit → Bool} {f g : Fl} (h : midF keep left f = some g) : g.1 = f.1 := by
  unfold midF at h
  split at h
  · injection h with h; rw [h]
  · exact crashF_name h
theorem midF_other {keep : Int} {left : Lit → Bool} {f : Fl} {s : ByteArray} (h : f.1 ≠ s) : midF keep (struckE left s) f = midF keep left f := by
  unfold midF; rw [struckE_at]; simp [h]
theorem mid_names {keep : Int} {left : Lit → Bool} {L : List Fl} {s : ByteArray} (h : ∀ f ∈ L, f.1 ≠ s) : ∀ g ∈ L.filterMap (midF keep left), g.1 ≠ s := by
  intro g hg
  obtain ⟨f, hf, e⟩ := List.mem_filterMap.1 hg
  rw [midF_name e]; exact h f hf
theorem mid_same {keep : Int} {left : Lit → Bool} {L : List Fl} {s : ByteArray} (h : ∀ f ∈ L, f.1 ≠ s) : L.filterMap (midF keep (struckE left s)) = L.filterMap (midF keep left) :=
  fm_congr fun f hf => midF_other (h f hf)
theorem delL_none {L : List Fl} {s : ByteArray} (h : ∀ f ∈ L, f.1 ≠ s) : delL L s = L := by
  unfold delL; rw [List.filter_eq_self]; intro f hf; simp [h f hf]
theorem updL_none {L : List Fl} {x : Fl} (h : ∀ f ∈ L, f.1 ≠ x.1) : updL L x = L := by
  unfold updL
  refine (List.map_congr_left fun z hz => ?_).trans (List.map_id L)
  rw [if_neg (h z hz)]; rfl
theorem mid_del {keep : Int} {left : Lit → Bool} {f : Fl} (hc : crashF keep f = none) (hl : left (keyL f.1) = true) : ∀ {L : List Fl}, (L.Pairwise fun a b => a.1 ≠ b.1) → f ∈ L → L.filterMap (midF keep (struckE left f.1)) = delL (L.filterMap (midF keep left)) f.1
  | y :: r, hp, hf => by
    rw [List.pairwise_cons] at hp
    rcases List.mem_cons.1 hf with rfl | hf
    · have hr : ∀ g ∈ r, g.1 ≠ f.1 := fun g hg e => hp.1 g hg e.symm
      have h1 : midF keep (struckE left f.1) f = none := by unfold midF; rw [struckE_at]; simp [hc]
      have h2 : midF keep left f = some f := by unfold midF; rw [if_pos hl]
      rw [List.filterMap_cons_none h1, List.filterMap_cons_some h2, mid_same hr]
      unfold delL
      rw [List.filter_cons]
      simp only [decide_true, Bool.not_true, Bool.false_eq_true, if_false]
      exact (delL_none (mid_names hr)).symm
    · have hne : y.1 ≠ f.1 := hp.1 f hf
      have ih := mid_del hc hl hp.2 hf
      have h1 := midF_other (keep := keep) (left := left) hne
      cases h2 : midF keep left y with
      | none =>
        rw [h2] at h1
        rw [List.filterMap_cons_none h1, List.filterMap_cons_none h2, ih]
      | some g =>
        rw [h2] at h1
        rw [List.filterMap_cons_some h1, List.filterMap_cons_some h2, ih]
        unfold delL
        rw [List.filter_cons, if_pos (by rw [midF_name h2]; simp [hne])]
theorem mid_upd {keep : Int} {left : Lit → Bool} {f f' : Fl} (hc : crashF keep f = some f') (hl : left (keyL f.1) = true) : ∀ {L : List Fl}, (L.Pairwise fun a b => a.1 ≠ b.1) → f ∈ L → L.filterMap (midF keep (struckE left f.1)) = updL (L.filterMap (midF keep left)) f'
  | y :: r, hp, hf => by
    have hnm := crashF_name hc
    rw [List.pairwise_cons] at hp
    rcases List.mem_cons.1 hf with rfl | hf
    · have hr : ∀ g ∈ r, g.1 ≠ f.1 := fun g hg e => hp.1 g hg e.symm
      have h1 : midF keep (struckE left f.1) f = some f' := by unfold midF; rw [struckE_at]; simp [hc]
      have h2 : midF keep left f = some f := by unfold midF; rw [if_pos hl]
      rw [List.filterMap_cons_some h1, List.filterMap_cons_some h2, mid_same hr]
      show _ = (if f.1 = f'.1 then f' else f) :: updL _ f'
      rw [if_pos hnm.symm, updL_none (by rw [hnm]; exact mid_names hr)]
    · have hne : y.1 ≠ f.1 := hp.1 f hf
      have ih := mid_upd hc hl hp.2 hf
      have h1 := midF_other (keep := keep) (left := left) hne
      cases h2 : midF keep left y with
      | none =>
        rw [h2] at h1
        rw [List.filterMap_cons_none h1, List.filterMap_cons_none h2, ih]
      | some g =>
        rw [h2] at h1
        rw [List.filterMap_cons_some h1, List.filterMap_cons_some h2, ih]
        show _ = (if g.1 = f'.1 then f' else g) :: updL _ f'
        rw [if_neg (by rw [midF_name h2, hnm]; exact hne)]
theorem delL_upd (M : List Fl) (x : Fl) : delL (updL M x) x.1 = delL M x.1 := by
  unfold delL updL
  induction M with
  | nil => rfl
  | cons y r ih =>
    rw [List.map_cons, List.filter_cons, List.filter_cons, ih]
    by_cases hy : y.1 = x.1
    · simp [hy]
    · simp [hy]
theorem mid_start (keep : Int) (es : List Ent) : (es.map val).filterMap (midF keep (Maps.has (dmap es))) = es.map val := by
  refine (fm_congr (g' := some) fun f hf => ?_).trans List.filterMap_some
  obtain ⟨e, he, rfl⟩ := List.mem_map.1 hf
  unfold midF
  rw [if_pos]
  show Maps.has (dmap es) (keyL e.nm) = true
  rw [has_dmap]
  cases hh : lookE es e.nm with
  | none => exact absurd rfl (lookE_none hh e he)
  | some x => rfl
theorem mid_end {keep : Int} {left : Lit → Bool} (h : ∀ s, left (keyL s) = false) (L : List Fl) : L.filterMap (midF keep left) = crashD keep L := by
  unfold crashD
  refine fm_congr fun f _ => ?_
  unfold midF; rw [h]; simp
theorem mid_mem {keep : Int} {left : Lit → Bool} {L : List Fl} (hp : L.Pairwise fun a b => a.1 ≠ b.1) {g : Fl} (hg : g ∈ L.filterMap (midF keep left)) (hl : left (keyL g.1) = true) : g ∈ L := by
  obtain ⟨f, hf, e⟩ := List.mem_filterMap.1 hg
  have hn := midF_name e
  unfold midF at e
  rw [hn] at hl
  rw [if_pos hl] at e
  injection e with e; rw [← e]; exact hf
section
variable {w w' : World} {db mb room r n : Nat} {es : List Ent} {left : Lit → Bool} {cnt : Nat}
theorem ranges_same {w : World} {D D' : DD} (h : w.ranges Tryz.prog 9 ptrE mb r n D left cnt) (e : D = D') : w.ranges Tryz.prog 9 ptrE mb r n D' left cnt := e ▸ h
theorem left_nat {keep : Int} {len m : Nat} (hm : m ≤ len) : max keep 0 = ((keep.toNat : Nat) : Int) ∧ min ((keep.toNat : Nat) : Int) ((len : Int) - (m : Int)) = ((min keep.toNat (len - m) : Nat) : Int) := by
  constructor <;> omega
theorem strike_twice (left : Lit → Bool) (s : ByteArray) : (fun z : Lit => struckE left s z && !z.sameKey (keyL s)) = struckE left s := Maps.strike_twice left (keyL s)
theorem wpList_del_ranges {P : Program} {w : World} {ops : Array Oper} {rest : List Oper} {o : Oper} {a : Act} {Q : Exit → Act → World → Prop} (hg : o.guard = none) (m x : Operand) (t k : TypeId) (hop : o.op = Op.call { callee := Callee.builtin Builtin.delete, args := #[m, x], argTypes := #[t, k] }) (e : TypeId) (hk : P.underlying k = some .string) (ht : P.underlying t = some (.map k e))
    (b r n : Nat) (es : List Ent) (left : Lit → Bool) (cnt : Nat) (hm : a.eval m = .map (some b)) (h : w.ranges P k ptrE b r n (dmap es) left cnt) (s : ByteArray) (hx : a.eval x = .string s) (hs : s.size ≤ maxLen)
    (hK : ∀ w' cnt', w'.ranges P k ptrE b r n (dmap (delE es s)) (fun z => left z && !z.sameKey (keyL s)) cnt' → cnt' ≤ cnt → w.mapTurned w' b → wpList P ops Q rest (a.put o.dst (.tuple #[])) w') : wpList P ops Q (o :: rest) a w :=
  wpList_delete_ranges w hg m x t k hop e (string_keyed hk) ht ptrE b r n (dmap es) left cnt hm h _ (keyL s) hx (key_of hk hs) (fun w' cnt' h1 h2 h3 => hK w' cnt' (by rwa [del_dmap] at h1) h2 h3)
end
section
set_option maxHeartbeats 1600000
set_option maxRecDepth 100000
variable {w : World} {db mb room : Nat} {es : List Ent}
theorem crash_any (h : DiskE w db mb room es) (keep : Int) : Calls Tryz.prog 33 #[.pointer (some ⟨db, 0, none⟩), .int .i64 keep] w fun e w' => e = .returned (.tuple #[]) ∧
    ∃ es', DiskE w' db mb room es' ∧ es'.map val = crashD keep (es.map val) ∧ Mv (foot db mb es) w w' ∧ ∀ k, foot db mb es' k → foot db mb es k := by
  have HM := Lib.hid (made_any h.box)
  have d0 := cell_blk h.box 0; have d1 := cell_blk h.box 1
  simp only [List.getElem?_toArray, List.getElem?_cons_succ, List.getElem?_cons_zero] at d0 d1
  have HD := Lib.hid h
  have hmbs : mb < w.heap.size := h.map.lt
  clear h
  go_enter Tryz.func33, Tryz.ntmps33
  go_wp2_with (first
    | (go_at_call 51; refine HM.out.mono ?_; rintro e w1 ⟨rfl, rfl⟩)
    | (at_range; refine wpList_range_own _ rfl _ 70 rfl 9 89 (string_keyed Tryz.underlying9) Tryz.underlying70 ptrE mb es.length (dmap es) rfl HD.out.map ?_; intro w0 hrg0 hg0 hs0)
    | fail)
  go_frame
  have hB0 : Below w.heap.size w w0 := (Below.refl _ w).grown hg0 (Nat.le_refl _) (fun k h => by cases h)
  have HD0 := Lib.hid (HD.out.below hB0)
  have HMV0 := Lib.hid (Mv.of_below hB0 (foot db mb es))
  have HR0 := Lib.hid hrg0
  have HST := Lib.hid (mid_start keep es).symm
  clear hrg0 hB0 hg0
  go_loopw [15] (fun _ wr => ∃ (left : Lit → Bool) (cnt : Nat) (cur : List Ent), Aside (wr.ranges Tryz.prog 9 ptrE mb w.heap.size es.length (dmap cur) left cnt) ∧ Aside (cur.map val = (es.map val).filterMap (midF keep left)) ∧ Aside (DiskE wr db mb room cur) ∧ Aside (Mv (foot db mb es) w wr) ∧ Aside (∀ k, foot db mb cur k → foot db mb es k)) (fun _ wr => wr.rangeLeft mb w.heap.size)
  case atStart => exact ⟨_, _, es, HR0.out, HST.out, HD0.out, HMV0.out, fun k h => h⟩
  case round =>
    obtain ⟨left, cnt, cur, RG, CE, DC, MV, FT⟩ := hrel
    go_wp2_with (first
      | (at_next; refine wpList_next_ptr rfl _ rfl 9 Tryz.underlying9 mb _ es.length cur left cnt rfl RG.out ?_ ?_)
      | fail)
    · intro hl
      go_wp2
      go_end0
      exact ⟨rfl, cur, DC.out, by rw [CE.out]; exact mid_end hl _, MV.out, FT.out⟩
    · intro e w1 cnt1 he hle hrg1 hlt hg1 hs1 hen
      have hfl : ∀ k, foot db mb cur k → k < w.heap.size := fun k hk => HD.out.lt (FT.out k hk)
      have D1 : DiskE w1 db mb room cur := DC.out.moved fun k hk => hg1.block k (DC.out.lt hk) (fun e => by injection e with e; have := hfl k hk; omega)
      obtain ⟨hb, hv⟩ := D1.at_ e he
      have hme : val e ∈ es.map val := mid_mem (srt_fst HD.out.srt) (by rw [← CE.out]; exact List.mem_map.2 ⟨e, he, rfl⟩) hle
      obtain ⟨hn, hnm⟩ := D1.each e he
      have hln := D1.len he
      obtain ⟨q2, q3⟩ := left_nat (keep := keep) hn
      have hdef : leftD keep (val e) = e.n + min keep.toNat (e.bs.length - e.n) := rfl
      obtain ⟨m, hm⟩ : ∃ m, m = min keep.toNat (e.bs.length - e.n) := ⟨_, rfl⟩
      obtain ⟨K, hK⟩ : ∃ K, K = keep.toNat := ⟨_, rfl⟩
      obtain ⟨N, hN⟩ : ∃ N, N = e.n + m := ⟨_, rfl⟩
      rw [← hm] at q3 hdef
      rw [← hN] at hdef
      rw [← hK] at q2 q3
      have hNl : N ≤ e.bs.length := by omega
      have hcr : crashF keep (val e) = if N = 0 then none else some (e.nm, e.bs.take N, N) := by unfold crashF; rw [hdef]; rfl
      have hlN : (e.bs.take N).length = N := by rw [List.length_take]; omega
      have q1 : IntKind.i64.wrap ((e.bs.length : Int) - (e.n : Int)) = (e.bs.length : Int) - (e.n : Int) := IntWalk.i64_in _ (by omega)
      have q4 : IntKind.i64.wrap ((e.n : Int) + (m : Int)) = (N : Int) := by rw [IntWalk.i64_in _ (by omega)]; omega
      have q5 : (e.n : Int) + (m : Int) = (N : Int) := by omega
      have HE := Lib.hid (fun q => end_any (w := w1.drewN q) hb hv N hNl)
      obtain ⟨A, c, e1, -, hc, -⟩ := hv.rd
      have c0 := cell_blk hb 0; have c1 := cell_blk hb 1
      simp only [List.getElem?_toArray, List.getElem?_cons_succ, List.getElem?_cons_zero] at c0 c1
      rw [e1] at c0
      have hfit : lenL ((updE cur { e with v := .slice none 0 0, bs := e.bs.take N, n := N }).map val) ≤ room := by
        refine Nat.le_trans ?_ D1.fits.1
        rw [← upd_val]
        exact upd_len (s := e.nm) (f := val e) (by rw [look_val, lookE_of D1.srt he]; rfl) _ rfl (by show (e.bs.take N).length ≤ e.bs.length; rw [hlN]; exact hNl) (srt_fst D1.srt)
      have hup2 : ∀ (q : Nat) (w2 : World) (v' : Value), w2.heap[e.bx]? = some (.cells #[v', .int .i64 (N : Nat)] 92 (0, 0)) → BytesAt w2 v' (e.bs.take N) → (∀ g, v'.ownBlock = some g → e.v.ownBlock = some g) → (∀ k, k ≠ e.bx → w2.heap[k]? = (w1.drewN q).heap[k]?) → Mv (fun k => k = e.bx) (w1.drewN q) w2 →
          DiskE w2 db mb room (updE cur { e with v := v', bs := e.bs.take N, n := N }) ∧ w2.ranges Tryz.prog 9 ptrE mb w.heap.size es.length (dmap (updE cur { e with v := v', bs := e.bs.take N, n := N })) (struckE left e.nm) cnt1 ∧ Mv (foot db mb es) w w2 ∧ (∀ k, foot db mb (updE cur { e with v := v', bs := e.bs.take N, n := N }) k → foot db mb es k) := by
        intro q w2 v' h1 h2 h3 h4 h5
        have hebx : e.bx < w.heap.size := hfl _ (.inr (.inr ⟨e, he, .inl rfl⟩))
        refine ⟨D1.upd (w' := w2) (x' := { e with v := v', bs := e.bs.take N, n := N }) he rfl rfl h1 h2 (fun g hg => .inl (h3 g hg)) (fun k _ hk _ => h4 k hk) ?_ (by show N ≤ (e.bs.take N).length; rw [hlN]; exact Nat.le_refl _), ?_, ?_, fun k hk => FT.out k (foot_upd (x' := { e with v := v', bs := e.bs.take N, n := N }) he rfl h3 hk)⟩
        · rw [← upd_val] at hfit ⊢; exact hfit
        · rw [dmap_upd (fun f hf hff => by have := srtE_one D1.srt hf he hff; rw [this])]
          exact World.ranges.kept (w := w1.drewN q) (row := some e.bx) hrg1 ⟨h5.os, h5.tape, h5.output, h5.size, fun i _ hne => h4 i (fun e1 => hne (by rw [e1]))⟩ (fun e1 => by injection e1 with e1; obtain ⟨-, -, a3, -⟩ := D1.db_ne he; exact a3 e1) (fun e1 => by injection e1 with e1; omega)
        · exact ((MV.out.grown hg1 (fun k hk e1 => by injection e1 with e1; omega)).drewN q).trans h5 (fun k hk e1 => FT.out k (.inr (.inr ⟨e, he, .inl e1⟩)))
      have HUP := Lib.hid hup2
      have HCR := Lib.hid hcr
      have hms : e.nm.size ≤ maxLen := by unfold maxLen; omega
      have HB := Lib.hid (fun (w2 : World) (h : DiskE w2 db mb room (updE cur { e with v := .slice none 0 0, bs := e.bs.take N, n := N })) => h.box)
      have HME := Lib.hid hme; have HLE := Lib.hid hle; have HLT := Lib.hid hlt; have HLN := Lib.hid hlN
      clear hfl D1 hb hv hdef hm hK hN hcr e1 hc hfit hup2 hme hle hrg1 hlt hg1 hlN
      by_cases hN0 : N = 0
      · have HZ := Lib.hid (show (((N : Nat) : Int) == 0) = true by simp [hN0])
        have HN0 := Lib.hid hN0; clear hN0
        go_wp2_with fail
        go_quiet (fail)
        go_wp2_with (first
          | (go_at_call 69; go_must (with_reducible refine (HE.out nq).mono ?_); rintro e9 w2 ⟨rfl, v', hb', hby, hrow, hot, hmv, hsz⟩; obtain ⟨D2, hrg2, hmv2, hft2⟩ := HUP.out nq w2 v' hb' hby hrow hot hmv; obtain ⟨A', c', e', -, -, -⟩ := hby.rd; rw [HLN.out] at e'; subst e'; have b0 := cell_blk hb' 0; have g0 := cell_blk D2.box 0; simp only [List.getElem?_toArray, List.getElem?_cons_succ, List.getElem?_cons_zero] at b0 g0; have HD2 := Lib.hid D2; have HR2 := Lib.hid hrg2; have HMV2 := Lib.hid hmv2; have HFT2 := Lib.hid hft2; have z := HZ.out; clear hb' hby hrow hot hmv hsz D2 hrg2 hmv2 hft2)
          | (at_delete; go_must (refine wpList_del_ranges rfl _ _ 70 9 rfl 89 Tryz.underlying9 Tryz.underlying70 mb _ es.length _ _ cnt1 rfl HR2.out e.nm rfl hms ?_; intro w3 cnt3 hrg3 hle3 hturn3))
          | fail)
        rw [strike_twice] at hrg3
        have D3 := HD2.out.sub (delE_sub _ e.nm) hrg3.owns (fun k hk hne => hturn3.grown.block k (HD2.out.lt hk) (fun e1 => hne (by injection e1)))
        have hval : (delE (updE cur { e with v := .slice A' N c', bs := e.bs.take N, n := N }) e.nm).map val = (es.map val).filterMap (midF keep (struckE left e.nm)) := by
          show _ = (es.map val).filterMap (midF keep (struckE left (val e).1))
          rw [mid_del (f := val e) (by rw [HCR.out, if_pos HN0.out]) HLE.out (srt_fst HD.out.srt) HME.out, ← CE.out, ← del_val, ← upd_val]
          exact delL_upd (cur.map val) (val { e with v := .slice A' N c', bs := e.bs.take N, n := N })
        have hmv3 := HMV2.out.grown hturn3.grown (fun k hk e1 => by injection e1 with e1; exact .inr (.inl e1.symm))
        have HR3 := Lib.hid hrg3; have HV3 := Lib.hid hval; have HD3 := Lib.hid D3; have HM3 := Lib.hid hmv3
        have HL3 := Lib.hid hle3
        clear hrg3 hval D3 hmv3 hle3
        go_frame
        go_roundw
        case rel => exact ⟨struckE left e.nm, cnt3, _, HR3.out, HV3.out, HD3.out, HM3.out, fun k hk => HFT2.out k (foot_sub (fun f hf => (delE_mem.1 hf).1) hk)⟩
        case measure => rw [HR3.out.left_eq, RG.out.left_eq]; exact Nat.lt_of_le_of_lt HL3.out HLT.out
      · have z : (((N : Nat) : Int) == 0) = false := by simp [hN0]
        go_wp2_with fail
        go_quiet (fail)
        go_wp2_with (first
          | (go_at_call 69; go_must (with_reducible refine (HE.out nq).mono ?_); rintro e9 w2 ⟨rfl, v', hb', hby, hrow, hot, hmv, hsz⟩; obtain ⟨D2, hrg2, hmv2, hft2⟩ := HUP.out nq w2 v' hb' hby hrow hot hmv; obtain ⟨A', c', e', -, -, -⟩ := hby.rd; rw [HLN.out] at e'; subst e'; have b0 := cell_blk hb' 0; have g0 := cell_blk D2.box 0; simp only [List.getElem?_toArray, List.getElem?_cons_succ, List.getElem?_cons_zero] at b0 g0; have HD2 := Lib.hid D2; have HR2 := Lib.hid hrg2; have HMV2 := Lib.hid hmv2; have HFT2 := Lib.hid hft2; clear hb' hby hrow hot hmv hsz D2 hrg2 hmv2 hft2)
          | fail)
        have hval : (updE cur { e with v := .slice A' N c', bs := e.bs.take N, n := N }).map val = (es.map val).filterMap (midF keep (struckE left e.nm)) := by
          show _ = (es.map val).filterMap (midF keep (struckE left (val e).1))
          rw [mid_upd (f := val e) (by rw [HCR.out, if_neg hN0]) HLE.out (srt_fst HD.out.srt) HME.out, ← CE.out, ← upd_val]; rfl
        have HV3 := Lib.hid hval; clear hval
        go_wp2_with fail
        go_roundw
        case rel => exact ⟨struckE left e.nm, cnt1, _, HR2.out, HV3.out, HD2.out, HMV2.out, HFT2.out⟩
        case measure => rw [HR2.out.left_eq, RG.out.left_eq]; exact HLT.out
end
end Go.Proofs.YtnmbjhpecblioaaGreatDoor
