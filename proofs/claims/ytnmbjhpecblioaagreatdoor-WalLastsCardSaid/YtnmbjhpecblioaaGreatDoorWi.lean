/-
  What a log's segments have, plainly: chunks of records. Nothing here speaks of the program.
-/
import Derived.Test.YtnmbjhpecblioaaGreatDoorWo
import Derived.Test.YtnmbjhpecblioaaGreatDoorFl
namespace Go.Proofs.YtnmbjhpecblioaaGreatDoor
set_option linter.unusedVariables false
set_option linter.unusedSimpArgs false
abbrev Ch := List (List UInt8)
/-- Whole segments, synced. -/
def fullW : Nat → List Ch → List Fl
  | _, [] => []
  | n, c :: r => (titleN n, framesF c, (framesF c).length) :: fullW (n + 1) r
/-- The segment that is written, if it has something. -/
def tailW (n : Nat) (c : Ch) (m : Nat) : List Fl := if c = [] then [] else [(titleN n, framesF c, m)]
def Small (c : Ch) : Prop := ∀ l ∈ c, l.length ≤ 1048576
theorem frames_ne {c : Ch} (h : c ≠ []) : 0 < (framesF c).length := by
  cases c with
  | nil => exact absurd rfl h
  | cons l r => rw [framesF_cons, List.length_append]; have := frameF_pos l; omega
theorem full_len : ∀ (f : Nat) (ds : List Ch), (fullW f ds).length = ds.length
  | _, [] => rfl
  | f, c :: r => by rw [fullW, List.length_cons, List.length_cons, full_len]
theorem full_snoc : ∀ (f : Nat) (ds : List Ch) (c : Ch), fullW f (ds ++ [c]) = fullW f ds ++ [(titleN ((f + ds.length : Nat)), framesF c, (framesF c).length)]
  | f, [], c => rfl
  | f, d :: r, c => by
    rw [List.cons_append, fullW, fullW, full_snoc (f + 1) r c, List.cons_append, List.length_cons]
    congr 4
    congr 1
    omega
theorem full_names : ∀ {f : Nat} {ds : List Ch} {x : Fl}, x ∈ fullW f ds → ∃ i, i < ds.length ∧ x.1 = titleN ((f + i : Nat))
  | f, c :: r, x, h => by
    rw [fullW] at h
    rcases List.mem_cons.1 h with rfl | h
    · exact ⟨0, by simp, rfl⟩
    · obtain ⟨i, hi, e⟩ := full_names h
      exact ⟨i + 1, by simpa using hi, by rw [e]; congr 2; omega⟩
theorem look_app (A B : List Fl) (s : ByteArray) : lookL (A ++ B) s = (lookL A s).or (lookL B s) := by unfold lookL; rw [List.find?_append]
theorem look_full {f : Nat} {ds : List Ch} {n : Nat} (hf : 1 ≤ f) (hb : f + ds.length ≤ 99999999) (hn : n = f + ds.length) : lookL (fullW f ds) (titleN n) = none := by
  unfold lookL
  rw [List.find?_eq_none]
  intro x hx
  obtain ⟨i, hi, e⟩ := full_names hx
  simp only [decide_eq_true_eq]
  intro h
  have := title_inj (m := f + i) (n := n) ⟨by omega, by omega⟩ ⟨by omega, by omega⟩ (by rw [← e, h])
  omega
theorem look_st {f : Nat} {ds : List Ch} {c : Ch} {m n : Nat} (hf : 1 ≤ f) (hb : f + ds.length ≤ 99999999) (hn : n = f + ds.length) :
    lookL (fullW f ds ++ tailW n c m) (titleN n) = if c = [] then none else some (titleN n, framesF c, m) := by
  rw [look_app, look_full hf hb hn]
  unfold tailW
  split
  · rfl
  · simp [lookL]
theorem look_beyond {f : Nat} {ds : List Ch} {c : Ch} {m n : Nat} (hf : 1 ≤ f) (hb : f + ds.length + 1 ≤ 99999999) (hn : n = f + ds.length) : lookL (fullW f ds ++ tailW n c m) (titleN ((n + 1 : Nat))) = none := by
  rw [look_app]
  have h1 : lookL (fullW f ds) (titleN ((n + 1 : Nat))) = none := by
    unfold lookL
    rw [List.find?_eq_none]
    intro x hx
    obtain ⟨i, hi, e⟩ := full_names hx
    simp only [decide_eq_true_eq]
    intro h
    have := title_inj (m := f + i) (n := n + 1) ⟨by omega, by omega⟩ ⟨by omega, by omega⟩ (by rw [← e, h])
    omega
  rw [h1]
  unfold tailW
  split
  · rfl
  · unfold lookL
    rw [Option.none_or, List.find?_cons, decide_eq_false (fun h => by have := title_inj (m := n) (n := n + 1) ⟨by omega, by omega⟩ ⟨by omega, by omega⟩ h; omega)]
    rfl
theorem lenW_st {f : Nat} {ds : List Ch} {c : Ch} {m n : Nat} (hf : 1 ≤ f) (hb : f + ds.length ≤ 99999999) (hn : n = f + ds.length) : lenW (fullW f ds ++ tailW n c m) n = (framesF c).length := by
  unfold lenW
  rw [look_st hf hb hn]
  by_cases hc : c = []
  · rw [if_pos hc, hc]; rfl
  · rw [if_neg hc]
theorem upd_st {f : Nat} {ds : List Ch} {c : Ch} {m n : Nat} (hf : 1 ≤ f) (hb : f + ds.length ≤ 99999999) (hn : n = f + ds.length) (hc : c ≠ []) (b : List UInt8) (k : Nat) :
    updL (fullW f ds ++ tailW n c m) (titleN n, b, k) = fullW f ds ++ [(titleN n, b, k)] := by
  unfold updL tailW
  rw [if_neg hc, List.map_append]
  congr 1
  · refine (List.map_congr_left fun x hx => ?_).trans (List.map_id _)
    obtain ⟨i, hi, e⟩ := full_names hx
    rw [if_neg fun h => by
      have := title_inj (m := f + i) (n := n) ⟨by omega, by omega⟩ ⟨by omega, by omega⟩ (by rw [← e]; exact h)
      omega]
    rfl
  · simp
theorem ins_end {x : Fl} : ∀ {L : List Fl}, (∀ y ∈ L, ¬ bl x.1 < bl y.1) → insL x L = L ++ [x]
  | [], _ => rfl
  | y :: r, h => by
    rw [insL, if_neg (h y (List.mem_cons_self ..)), ins_end fun z hz => h z (List.mem_cons_of_mem _ hz)]; rfl
theorem put_new {x : Fl} {L : List Fl} (h : lookL L x.1 = none) (h2 : ∀ y ∈ L, ¬ bl x.1 < bl y.1) : putL L x = L ++ [x] := by
  unfold putL
  have hd : delL L x.1 = L := by
    unfold delL
    rw [List.filter_eq_self]
    intro y hy
    simp [look_none h y hy]
  rw [hd]
  exact ins_end h2
theorem st_below {f : Nat} {ds : List Ch} {c : Ch} {m n : Nat} (hf : 1 ≤ f) (hn : n = f + ds.length) {k : Nat} (hk : n ≤ k) (hb : k ≤ 99999999) (hc : n = k → c = []) : ∀ y ∈ fullW f ds ++ tailW n c m, ¬ bl (titleN k) < bl y.1 := by
  intro y hy
  rcases List.mem_append.1 hy with hy | hy
  · obtain ⟨i, hi, e⟩ := full_names hy
    rw [e]
    exact ltB_asymm (title_order (m := f + i) (n := k) ⟨by omega, by omega⟩ ⟨by omega, by omega⟩ (by omega))
  · unfold tailW at hy
    split at hy
    · cases hy
    · rename_i hne
      rw [List.mem_singleton] at hy
      subst hy
      rcases Nat.lt_or_ge n k with hlt | hge
      · exact ltB_asymm (title_order (m := n) (n := k) ⟨by omega, by omega⟩ ⟨by omega, by omega⟩ hlt)
      · exact absurd (hc (by omega)) hne
/-- A log that was begun on an empty disk: its whole segments, its last one, and how many of that one's records are synced. -/
structure Inv (g : Lg) (ds : List Ch) (c : Ch) (j : Nat) : Prop where
  is : g = (fullW 1 ds ++ tailW (1 + ds.length) c (framesF (c.take j)).length, 1 + ds.length, (ds.flatten ++ c).length, ds.flatten.length + j)
  le : j ≤ c.length
  ne : ∀ d ∈ ds, d ≠ []
  few : 1 + ds.length ≤ 90000000
  small : Small c ∧ ∀ d ∈ ds, Small d
  size : ∀ d ∈ c :: ds, 1 < d.length → (framesF d).length ≤ 4096
theorem inv_new : Inv ([], 1, 0, 0) [] [] 0 where
  is := rfl
  le := Nat.le_refl _
  ne := fun d hd => by cases hd
  few := by decide
  small := ⟨(fun l hl => by cases hl), (fun d hd => by cases hd)⟩
  size := fun d hd h => by
    rw [List.mem_singleton] at hd
    subst hd
    simp at h
theorem sync_st {g : Lg} {ds : List Ch} {c : Ch} {j : Nat} (h : Inv g ds c j) : (syncD g.1 (titleN g.2.1)).2 = fullW 1 ds ++ tailW (1 + ds.length) c (framesF c).length := by
  have hb := h.few
  rw [h.is]
  unfold syncD
  simp only
  rw [look_st (by decide) (by omega) rfl]
  by_cases hc : c = []
  · subst hc; simp [tailW]
  · rw [if_neg hc]
    simp only
    rw [upd_st (by decide) (by omega) rfl hc]
    unfold tailW
    rw [if_neg hc]
theorem inv_sync {g : Lg} {ds : List Ch} {c : Ch} {j : Nat} (h : Inv g ds c j) : Inv (wsyncP g) ds c c.length := by
  refine ⟨?_, Nat.le_refl _, h.ne, h.few, h.small, h.size⟩
  unfold wsyncP
  rw [sync_st h, h.is, List.take_length, List.length_append]
theorem inv_roll {g : Lg} {ds : List Ch} {c : Ch} {j : Nat} (h : Inv g ds c j) (hf : 1 + ds.length < 90000000) : (wrollP g).1 = 0 ∧ ((c = [] ∧ Inv (wrollP g).2 ds c c.length) ∨ (c ≠ [] ∧ Inv (wrollP g).2 (ds ++ [c]) [] 0)) := by
  have hb := h.few
  have hs := inv_sync h
  have hlw : lenW g.1 g.2.1 = (framesF c).length := by rw [h.is]; exact lenW_st (by decide) (by omega) rfl
  have hseg : g.2.1 = 1 + ds.length := by rw [h.is]
  unfold wrollP
  rw [if_neg (by omega), hlw]
  refine ⟨rfl, ?_⟩
  by_cases hc : c = []
  · refine .inl ⟨hc, ?_⟩
    rw [if_neg (by subst hc; simp [framesF])]
    exact hs
  · refine .inr ⟨hc, ?_⟩
    rw [if_pos (frames_ne hc)]
    refine ⟨?_, Nat.le_refl _, fun d hd => ?_, by rw [List.length_append]; simp; omega, ⟨(fun l hl => by cases hl), fun d hd => ?_⟩, fun d hd h1 => ?_⟩
    · have hl : (wsyncP g).1 = fullW 1 ds ++ tailW (1 + ds.length) c (framesF c).length := sync_st h
      simp only
      rw [hl, hseg, full_snoc]
      have e1 : g.2.2.1 = (ds.flatten ++ c).length := by rw [h.is]
      rw [e1]
      unfold tailW
      rw [if_neg hc, if_pos rfl, List.append_nil]
      simp [List.length_append, Nat.add_assoc]
    · rcases List.mem_append.1 hd with hd | hd
      · exact h.ne d hd
      · rw [List.mem_singleton] at hd; rw [hd]; exact hc
    · rcases List.mem_append.1 hd with hd | hd
      · exact h.small.2 d hd
      · rw [List.mem_singleton] at hd; rw [hd]; exact h.small.1
    · rcases List.mem_cons.1 hd with rfl | hd
      · simp at h1
      · rcases List.mem_append.1 hd with hd | hd
        · exact h.size d (List.mem_cons_of_mem _ hd) h1
        · rw [List.mem_singleton] at hd; rw [hd] at h1 ⊢; exact h.size c (List.mem_cons_self ..) h1
theorem app_new {room : Nat} {L : List Fl} {t : ByteArray} {b : List UInt8} (ht : titleB (bl t) = true) (hl : lookL L t = none) (h64 : ¬ 64 ≤ L.length) (hr : ¬ room < lenL L + b.length) (h2 : ∀ y ∈ L, ¬ bl t < bl y.1) : (appD room L t b).2 = L ++ [(t, b, 0)] := by
  unfold appD
  rw [if_neg (by rw [ht]; decide), hl]
  simp only
  rw [if_neg h64, if_neg hr]
  exact put_new hl h2
theorem app_old {room : Nat} {L : List Fl} {t : ByteArray} {b x : List UInt8} {m : Nat} (ht : titleB (bl t) = true) (hl : lookL L t = some (t, x, m)) (hr : ¬ room < lenL L + b.length) : (appD room L t b).2 = updL L (t, x ++ b, m) := by
  unfold appD
  rw [if_neg (by rw [ht]; decide), hl]
  simp only
  rw [if_neg hr]
theorem small_snoc {c : Ch} {b : List UInt8} (h : Small c) (hb : b.length ≤ 1048576) : Small (c ++ [b]) := fun l hl => by
  rcases List.mem_append.1 hl with hl | hl
  · exact h l hl
  · rw [List.mem_singleton] at hl; rw [hl]; exact hb
theorem inv_app {g : Lg} {ds : List Ch} {c : Ch} {j : Nat} (h : Inv g ds c j) (hp : g.1.Pairwise fun a b => a.1 ≠ b.1) (room : Nat) (b : List UInt8) (hb : b.length ≤ 1048576) (hf : 1 + ds.length < 90000000) :
    ((wappP room g b).1 ≠ 0 ∧ (wappP room g b).2 = g) ∨ ((wappP room g b).1 = 0 ∧ ∃ ds' c' j', Inv (wappP room g b).2 ds' c' j' ∧ ds'.flatten ++ c' = (ds.flatten ++ c) ++ [b] ∧ ds'.length ≤ ds.length + 1) := by
  have hbn := h.few
  have hlw : lenW g.1 g.2.1 = (framesF c).length := by rw [h.is]; exact lenW_st (by decide) (by omega) rfl
  have hseg : g.2.1 = 1 + ds.length := by rw [h.is]
  have hcnt : g.2.2.1 = (ds.flatten ++ c).length := by rw [h.is]
  have hsure : g.2.2.2 = ds.flatten.length + j := by rw [h.is]
  have hL : g.1 = fullW 1 ds ++ tailW (1 + ds.length) c (framesF (c.take j)).length := by rw [h.is]
  unfold wappP
  rw [if_neg (by omega)]
  by_cases hT : wtakesP room g.1 (wtoP g (frameF b).length) (frameF b).length = 0
  · rw [if_neg (by simp [hT])]
    refine .inr ⟨rfl, ?_⟩
    unfold wtakesP at hT
    split at hT
    · cases hT
    rename_i h1
    split at hT
    · cases hT
    rename_i h2
    by_cases hto : 0 < lenW g.1 g.2.1 ∧ 4096 < lenW g.1 g.2.1 + (frameF b).length
    · have hn : wtoP g (frameF b).length = g.2.1 + 1 := by unfold wtoP; rw [if_pos hto]
      rw [hn] at h1 h2 ⊢
      have hc : c ≠ [] := fun e => by
        have := hto.1
        rw [hlw, e] at this
        exact absurd this (by simp [framesF])
      have hs : (wsyncP g).1 = fullW 1 ds ++ tailW (1 + ds.length) c (framesF c).length := sync_st h
      obtain ⟨p1, p2⟩ := pairs_len (sync_pairs hp (titleN g.2.1))
      have hlk : lookL g.1 (titleN ((g.2.1 + 1 : Nat))) = none := by rw [hL, hseg]; exact look_beyond (by decide) (by omega) rfl
      have hap := app_new (room := room) (L := (wsyncP g).1) (t := titleN ((g.2.1 + 1 : Nat))) (b := frameF b) (title_valid ⟨by omega, by omega⟩) (by rw [hs, hseg]; exact look_beyond (by decide) (by omega) rfl)
        (by have h9 : (wsyncP g).1.length = g.1.length := p2
            rw [h9]; intro h3; exact h2 ⟨hlk, h3⟩) (by have h9 : lenL (wsyncP g).1 = lenL g.1 := p1
                                                       rw [h9]; omega) (by rw [hs, hseg]; exact st_below (by decide) rfl (by omega) (by omega) (fun e => absurd e (by omega)))
      rw [if_neg (by omega), if_neg (by omega), hap, hs]
      have hfs : fullW 1 ds ++ tailW (1 + ds.length) c (framesF c).length = fullW 1 (ds ++ [c]) := by
        rw [full_snoc]; unfold tailW; rw [if_neg hc]
      refine ⟨ds ++ [c], [b], 0, ⟨?_, by simp, fun d hd => ?_, by rw [List.length_append]; simp; omega, ⟨?_, fun d hd => ?_⟩, fun d hd h3 => ?_⟩, by simp, by simp⟩
      · rw [hfs, hseg, hcnt]
        unfold tailW
        rw [if_neg (by simp)]
        simp [List.length_append, Nat.add_assoc, framesF]
      · rcases List.mem_append.1 hd with hd | hd
        · exact h.ne d hd
        · rw [List.mem_singleton] at hd; rw [hd]; exact hc
      · intro l hl; rw [List.mem_singleton] at hl; rw [hl]; exact hb
      · rcases List.mem_append.1 hd with hd | hd
        · exact h.small.2 d hd
        · rw [List.mem_singleton] at hd; rw [hd]; exact h.small.1
      · rcases List.mem_cons.1 hd with rfl | hd
        · simp at h3
        · rcases List.mem_append.1 hd with hd | hd
          · exact h.size d (List.mem_cons_of_mem _ hd) h3
          · rw [List.mem_singleton] at hd; rw [hd] at h3 ⊢; exact h.size c (List.mem_cons_self ..) h3
    · have hn : wtoP g (frameF b).length = g.2.1 := by unfold wtoP; rw [if_neg hto]
      rw [hn] at h1 h2 ⊢
      rw [if_pos rfl, if_pos rfl]
      have ht : titleB (bl (titleN ((g.2.1 : Nat)))) = true := title_valid ⟨by omega, by omega⟩
      have hlk : lookL g.1 (titleN ((g.2.1 : Nat))) = if c = [] then none else some (titleN ((1 + ds.length : Nat)), framesF c, (framesF (c.take j)).length) := by rw [hL, hseg]; exact look_st (by decide) (by omega) rfl
      by_cases hc : c = []
      · rw [if_pos hc] at hlk
        have hap := app_new (room := room) (L := g.1) (t := titleN ((g.2.1 : Nat))) (b := frameF b) ht hlk (fun h3 => h2 ⟨hlk, h3⟩) (by omega) (by rw [hL, hseg]; exact st_below (by decide) rfl (Nat.le_refl _) (by omega) (fun _ => hc))
        have hj : j = 0 := by have := h.le; rw [hc] at this; simpa using this
        rw [hap]
        refine ⟨ds, [b], 0, ⟨?_, by simp, h.ne, h.few, ⟨?_, h.small.2⟩, fun d hd h3 => ?_⟩, by rw [hc]; simp, by omega⟩
        · rw [hL, hseg, hcnt, hsure, hj, hc]
          unfold tailW
          rw [if_pos rfl, if_neg (by simp)]
          simp [framesF]
        · intro l hl; rw [List.mem_singleton] at hl; rw [hl]; exact hb
        · rcases List.mem_cons.1 hd with rfl | hd
          · simp at h3
          · exact h.size d (List.mem_cons_of_mem _ hd) h3
      · rw [if_neg hc] at hlk
        have hap := app_old (room := room) (L := g.1) (t := titleN ((g.2.1 : Nat))) (b := frameF b) ht (by rw [hlk, hseg]) (by omega)
        rw [hap, hL, hseg, upd_st (by decide) (by omega) rfl hc]
        refine ⟨ds, c ++ [b], j, ⟨?_, by rw [List.length_append]; have := h.le; omega, h.ne, h.few, ⟨small_snoc h.small.1 hb, h.small.2⟩, fun d hd h3 => ?_⟩, by simp, by omega⟩
        · rw [hcnt, hsure, List.take_append_of_le_length h.le]
          unfold tailW
          rw [if_neg (by simp), framesF_snoc]
          simp [Nat.add_assoc]
        · rcases List.mem_cons.1 hd with rfl | hd
          · rw [framesF_snoc, List.length_append]
            rw [hlw] at hto
            have := frames_ne hc
            omega
          · exact h.size d (List.mem_cons_of_mem _ hd) h3
  · rw [if_pos (by simpa using hT)]
    exact .inl ⟨hT, rfl⟩
theorem segs_app (A B : List Fl) : segsW (A ++ B) = segsW A ++ segsW B := by unfold segsW; rw [List.filterMap_append]
theorem segs_one {n : Nat} (h : 1 ≤ n ∧ n ≤ 99999999) (b : List UInt8) (m : Nat) : segsW [(titleN n, b, m)] = [n] := by
  unfold segsW
  rw [List.filterMap_cons, List.filterMap_nil, num_title h]
theorem segs_full : ∀ (f : Nat) (ds : List Ch), 1 ≤ f → f + ds.length ≤ 100000000 → segsW (fullW f ds) = List.range' f ds.length
  | f, [], _, _ => rfl
  | f, c :: r, h1, h2 => by
    rw [List.length_cons] at h2
    have e : fullW f (c :: r) = [(titleN f, framesF c, (framesF c).length)] ++ fullW (f + 1) r := rfl
    rw [e, segs_app, segs_one ⟨h1, by omega⟩, segs_full (f + 1) r (by omega) (by omega), List.length_cons, List.range'_succ]; rfl
theorem bytes_cons (t : ByteArray) (b : List UInt8) (m : Nat) (L : List Fl) (n : Nat) : bytesW ((t, b, m) :: L) n = if t = titleN n then b else bytesW L n := by
  unfold bytesW lookL
  rw [List.find?_cons]
  by_cases h : t = titleN n
  · rw [if_pos h, decide_eq_true h]
  · rw [if_neg h, decide_eq_false h]
theorem look_cons (t : ByteArray) (b : List UInt8) (m : Nat) (L : List Fl) (s : ByteArray) : lookL ((t, b, m) :: L) s = if t = s then some (t, b, m) else lookL L s := by
  unfold lookL
  rw [List.find?_cons]
  by_cases h : t = s
  · rw [if_pos h, decide_eq_true h]
  · rw [if_neg h, decide_eq_false h]
theorem bytes_full : ∀ (f : Nat) (ds : List Ch) (R : List Fl) (i : Nat) (h : i < ds.length), 1 ≤ f → f + ds.length ≤ 100000000 → lookL (fullW f ds ++ R) (titleN ((f + i : Nat))) ≠ none ∧ bytesW (fullW f ds ++ R) (f + i) = framesF ds[i]
  | f, c :: r, R, 0, h, h1, h2 => by
    rw [Nat.add_zero, fullW, List.cons_append, look_cons, bytes_cons, if_pos rfl, if_pos rfl]
    exact ⟨by simp, rfl⟩
  | f, c :: r, R, i + 1, h, h1, h2 => by
    rw [List.length_cons] at h h2
    have hne : titleN (f : Nat) ≠ titleN ((f + (i + 1) : Nat)) := fun e => by
      have := title_inj (m := f) (n := f + (i + 1)) ⟨h1, by omega⟩ ⟨by omega, by omega⟩ e
      omega
    have ih := bytes_full (f + 1) r R i (by omega) (by omega) (by omega)
    rw [show f + 1 + i = f + (i + 1) by omega] at ih
    rw [fullW, List.cons_append, look_cons, bytes_cons, if_neg hne, if_neg hne]
    exact ih
theorem bytes_last {f : Nat} {ds : List Ch} {n : Nat} (hf : 1 ≤ f) (hb : f + ds.length ≤ 99999999) (hn : n = f + ds.length) (x : List UInt8) (m : Nat) : lookL (fullW f ds ++ [(titleN n, x, m)]) (titleN n) ≠ none ∧ bytesW (fullW f ds ++ [(titleN n, x, m)]) n = x := by
  have hl : lookL (fullW f ds ++ [(titleN n, x, m)]) (titleN n) = some (titleN n, x, m) := by
    rw [look_app, look_full hf hb hn]
    simp [lookL]
  unfold bytesW
  rw [hl]
  exact ⟨by simp, rfl⟩
theorem open_full (L : List Fl) (last : Nat) : ∀ (ds : List Ch) (f : Nat) (r : List Nat), (∀ i (h : i < ds.length), bytesW L (f + i) = framesF ds[i]) → (∀ d ∈ ds, Small d) →
    openR L last (List.range' f ds.length ++ r) = (ds.flatten ++ (openR L last r).1, (openR L last r).2)
  | [], f, r, _, _ => by simp
  | d :: ds, f, r, hb, hs => by
    have h0 := hb 0 (by simp)
    simp only [Nat.add_zero, List.getElem_cons_zero] at h0
    have ih := open_full L last ds (f + 1) r (fun i h => by
      have := hb (i + 1) (by simpa using h)
      rw [show f + 1 + i = f + (i + 1) by omega, this]; rfl) (fun x hx => hs x (List.mem_cons_of_mem _ hx))
    have ha := allF_frames d (hs d (List.mem_cons_self ..))
    rw [List.length_cons, List.range'_succ, List.cons_append, openR, h0, ha]
    simp only
    rw [if_pos trivial, ih]
    simp
/-- The segments of a log that was begun on an empty disk. -/
theorem inv_view {g : Lg} {ds : List Ch} {c : Ch} {j : Nat} (h : Inv g ds c j) : ∃ ks : List Ch, segsW g.1 = List.range' 1 ks.length ∧ (∀ i (hi : i < ks.length), lookL g.1 (titleN ((1 + i : Nat))) ≠ none ∧ bytesW g.1 (1 + i) = framesF ks[i]) ∧ ks.flatten = ds.flatten ++ c ∧ ks.length ≤ 90000000 ∧
    ∀ d ∈ ks, d ≠ [] ∧ Small d ∧ (1 < d.length → (framesF d).length ≤ 4096) := by
  have hb := h.few
  have hL : g.1 = fullW 1 ds ++ tailW (1 + ds.length) c (framesF (c.take j)).length := by rw [h.is]
  have hds : ∀ d ∈ ds, d ≠ [] ∧ Small d ∧ (1 < d.length → (framesF d).length ≤ 4096) := fun d hd => ⟨h.ne d hd, h.small.2 d hd, h.size d (List.mem_cons_of_mem _ hd)⟩
  by_cases hc : c = []
  · subst hc
    have ht : tailW (1 + ds.length) [] (framesF ([].take j)).length = [] := by unfold tailW; rw [if_pos rfl]
    refine ⟨ds, ?_, fun i hi => ?_, by simp, by omega, hds⟩
    · rw [hL, ht, List.append_nil, segs_full 1 ds (by decide) (by omega)]
    · rw [hL]; exact bytes_full 1 ds _ i hi (by decide) (by omega)
  · have ht : tailW (1 + ds.length) c (framesF (c.take j)).length = [(titleN ((1 + ds.length : Nat)), framesF c, (framesF (c.take j)).length)] := by unfold tailW; rw [if_neg hc]
    refine ⟨ds ++ [c], ?_, fun i hi => ?_, by simp, by rw [List.length_append]; simp; omega, fun d hd => ?_⟩
    · rw [hL, ht, segs_app, segs_full 1 ds (by decide) (by omega), segs_one ⟨by omega, by omega⟩, List.length_append, List.length_singleton, List.range'_concat]
      simp
    · rw [hL, ht]
      rw [List.length_append, List.length_singleton] at hi
      rcases Nat.lt_or_ge i ds.length with hlt | hge
      · rw [List.getElem_append_left hlt]
        exact bytes_full 1 ds _ i hlt (by decide) (by omega)
      · have : i = ds.length := by omega
        subst this
        rw [List.getElem_append_right (Nat.le_refl _)]
        simp only [Nat.sub_self, List.getElem_cons_zero]
        exact bytes_last (by decide) (by omega) rfl _ _
    · rcases List.mem_append.1 hd with hd | hd
      · exact hds d hd
      · rw [List.mem_singleton] at hd
        subst hd
        exact ⟨hc, h.small.1, h.size _ (List.mem_cons_self ..)⟩
end Go.Proofs.YtnmbjhpecblioaaGreatDoor
