/-
  What a disk has of one name, and what a call makes of it, plainly.
-/
import Derived.Test.YtnmbjhpecblioaaDi
namespace Go.Proofs.Ytnmbjhpecblioaa
set_option linter.unusedVariables false
set_option linter.unusedSimpArgs false
open Go.RowKit
def ofN (s : ByteArray) (L : List Fl) : List Fl := L.filter fun f => decide (f.1 = s)
theorem look_ofN (s : ByteArray) (L : List Fl) : lookL (ofN s L) s = lookL L s := by
  unfold lookL ofN
  rw [List.find?_filter]
  congr 1
  funext f
  by_cases h : f.1 = s <;> simp [h]
theorem ofN_names {s : ByteArray} {L : List Fl} : ∀ f ∈ ofN s L, f.1 = s := fun f hf => by simpa using (List.mem_filter.1 hf).2
theorem ofN_upd (s : ByteArray) (L : List Fl) (x : Fl) : ofN s (updL L x) = updL (ofN s L) x := by
  unfold ofN updL
  induction L with
  | nil => rfl
  | cons y r ih =>
    rw [List.map_cons, List.filter_cons, List.filter_cons, ih]
    by_cases hy : y.1 = x.1
    · rw [if_pos hy]
      by_cases hs : y.1 = s
      · rw [decide_eq_true hs, decide_eq_true (hy ▸ hs : x.1 = s), if_pos rfl, if_pos rfl, List.map_cons, if_pos hy]
      · rw [decide_eq_false hs, decide_eq_false (fun h => hs (hy.trans h) : ¬ x.1 = s)]; rfl
    · rw [if_neg hy]
      by_cases hs : y.1 = s
      · rw [decide_eq_true hs, if_pos rfl, if_pos rfl, List.map_cons, if_neg hy]
      · rw [decide_eq_false hs]; rfl
theorem ofN_upd_other {s : ByteArray} {L : List Fl} {x : Fl} (h : x.1 ≠ s) : ofN s (updL L x) = ofN s L := by
  rw [ofN_upd]
  exact updL_none fun f hf e => h (by rw [← e, ofN_names f hf])
theorem ofN_del (s t : ByteArray) (L : List Fl) : ofN s (delL L t) = delL (ofN s L) t := by
  unfold ofN delL
  rw [List.filter_filter, List.filter_filter]
  apply List.filter_congr
  intro f _
  exact Bool.and_comm _ _
theorem ofN_del_other {s t : ByteArray} {L : List Fl} (h : t ≠ s) : ofN s (delL L t) = ofN s L := by
  rw [ofN_del]
  exact delL_none fun f hf e => h (by rw [← e, ofN_names f hf])
theorem del_ofN (s : ByteArray) (L : List Fl) : delL (ofN s L) s = [] := by
  unfold delL
  rw [List.filter_eq_nil_iff]
  intro f hf
  simp [ofN_names f hf]
theorem ofN_ins_other {s : ByteArray} {x : Fl} (h : x.1 ≠ s) : ∀ L : List Fl, ofN s (insL x L) = ofN s L
  | [] => by simp [insL, ofN, h]
  | y :: r => by
    have ih := ofN_ins_other h r
    unfold insL
    split
    · unfold ofN; rw [List.filter_cons, decide_eq_false h]; rfl
    · unfold ofN at ih ⊢
      rw [List.filter_cons, List.filter_cons, ih]
theorem ofN_ins_same {s : ByteArray} {x : Fl} (h : x.1 = s) : ∀ {L : List Fl}, ofN s L = [] → ofN s (insL x L) = [x]
  | [], _ => by simp [insL, ofN, h]
  | y :: r, hn => by
    have hy : ¬ y.1 = s := fun e => by
      have : y ∈ ofN s (y :: r) := List.mem_filter.2 ⟨by simp, by simp [e]⟩
      rw [hn] at this; simp at this
    have hr : ofN s r = [] := by
      unfold ofN at hn ⊢
      rw [List.filter_cons, decide_eq_false hy] at hn; exact hn
    have ih := ofN_ins_same h hr
    unfold insL
    split
    · unfold ofN at hn ⊢; rw [List.filter_cons, decide_eq_true h, if_pos rfl, hn]
    · unfold ofN at ih ⊢
      rw [List.filter_cons, decide_eq_false hy]; exact ih
theorem ofN_put_other {s : ByteArray} {x : Fl} (h : x.1 ≠ s) (L : List Fl) : ofN s (putL L x) = ofN s L := by
  unfold putL; rw [ofN_ins_other h, ofN_del_other h]
theorem ofN_put_same {s : ByteArray} {x : Fl} (h : x.1 = s) (L : List Fl) : ofN s (putL L x) = putL (ofN s L) x := by
  unfold putL
  rw [ofN_ins_same h (by rw [ofN_del, h, del_ofN]), h, del_ofN]; rfl
theorem ofN_crash (s : ByteArray) (keep : Int) (L : List Fl) : ofN s (crashD keep L) = crashD keep (ofN s L) := by
  unfold ofN crashD
  induction L with
  | nil => rfl
  | cons y r ih =>
    rw [List.filter_cons]
    cases hc : crashF keep y with
    | none =>
      rw [List.filterMap_cons_none hc, ih]
      split
      · rw [List.filterMap_cons_none hc]
      · rfl
    | some g =>
      rw [List.filterMap_cons_some hc, List.filter_cons, ih, crashF_name hc]
      split
      · rw [List.filterMap_cons_some hc]
      · rfl
theorem ofN_len (s : ByteArray) (L : List Fl) : lenL (ofN s L) ≤ lenL L := lenL_sub List.filter_sublist
theorem look_len {L : List Fl} {s : ByteArray} {f : Fl} (h : lookL L s = some f) : f.2.1.length ≤ lenL L := by
  have hm := List.mem_of_find?_eq_some h
  unfold lenL
  induction L with
  | nil => simp at hm
  | cons y r ih =>
    rw [List.map_cons, List.sum_cons]
    unfold lookL at h
    rw [List.find?_cons] at h
    by_cases hy : y.1 = s
    · rw [decide_eq_true hy] at h; injection h with h; rw [h]; omega
    · rw [decide_eq_false hy] at h
      have := ih h (List.mem_of_find?_eq_some h); omega
theorem look_none_ofN {L : List Fl} {s : ByteArray} (h : lookL L s = none) : ofN s L = [] := by
  unfold ofN; rw [List.filter_eq_nil_iff]; intro f hf; exact List.find?_eq_none.1 h f hf
theorem app_of {room : Nat} {L : List Fl} {s : ByteArray} {b : List UInt8} (hl : L.length < 64) (hr : lenL L + b.length ≤ room) : (appD room (ofN s L) s b).1 = (appD room L s b).1 ∧ (appD room (ofN s L) s b).2 = ofN s (appD room L s b).2 := by
  have h1 := ofN_len s L
  unfold appD
  by_cases ht : titleB (bl s) = false
  · rw [if_pos ht, if_pos ht]; exact ⟨rfl, rfl⟩
  · rw [if_neg ht, if_neg ht, look_ofN]
    cases hl2 : lookL L s with
    | none =>
      simp only
      rw [look_none_ofN hl2, if_neg (by simp), if_neg (show ¬ room < lenL ([] : List Fl) + b.length by rw [show lenL ([] : List Fl) = 0 from rfl]; omega), if_neg (by omega), if_neg (by omega)]
      refine ⟨rfl, ?_⟩
      show putL [] (s, b, 0) = ofN s (putL L (s, b, 0))
      rw [ofN_put_same (x := (s, b, 0)) rfl, look_none_ofN hl2]
    | some f =>
      simp only
      rw [if_neg (by omega), if_neg (by omega)]
      exact ⟨rfl, (ofN_upd s L _).symm⟩
theorem app_off {room : Nat} {L : List Fl} {s t : ByteArray} {b : List UInt8} (h : t ≠ s) : ofN s (appD room L t b).2 = ofN s L := by
  unfold appD
  split
  · rfl
  · cases lookL L t with
    | none =>
      simp only
      split
      · rfl
      · split
        · rfl
        · exact ofN_put_other h L
    | some f =>
      simp only
      split
      · rfl
      · exact ofN_upd_other h
/-- What is done to a file hangs on that file alone. -/
theorem do_of {room : Nat} {L : List Fl} {o : OpD} {s : ByteArray} (hn : o.nm = s) (hsw : o.kd = 4 → o.nt = s) (hl : o.kd = 0 → L.length < 64) (hr : lenL L + o.bs.length ≤ room) : (doD room (ofN s L) o).1 = (doD room L o).1 ∧ (doD room (ofN s L) o).2 = ofN s (doD room L o).2 := by
  subst hn
  unfold doD
  by_cases k0 : o.kd = 0
  · rw [if_pos k0, if_pos k0]; exact app_of (hl k0) hr
  by_cases k1 : o.kd = 1
  · rw [if_neg k0, if_pos k1, if_neg k0, if_pos k1]
    unfold syncD
    rw [look_ofN]
    cases lookL L o.nm with
    | none => exact ⟨rfl, rfl⟩
    | some f => exact ⟨rfl, (ofN_upd _ L _).symm⟩
  by_cases k2 : o.kd = 2
  · rw [if_neg k0, if_neg k1, if_pos k2, if_neg k0, if_neg k1, if_pos k2]
    unfold cutD
    rw [look_ofN]
    cases lookL L o.nm with
    | none => exact ⟨rfl, rfl⟩
    | some f =>
      simp only
      split
      · exact ⟨rfl, rfl⟩
      · exact ⟨rfl, (ofN_upd _ L _).symm⟩
  by_cases k3 : o.kd = 3
  · rw [if_neg k0, if_neg k1, if_neg k2, if_pos k3, if_neg k0, if_neg k1, if_neg k2, if_pos k3]
    unfold remD
    rw [look_ofN]
    cases lookL L o.nm with
    | none => exact ⟨rfl, rfl⟩
    | some f => exact ⟨rfl, (ofN_del _ _ L).symm⟩
  by_cases k4 : o.kd = 4
  · rw [if_neg k0, if_neg k1, if_neg k2, if_neg k3, if_pos k4, if_neg k0, if_neg k1, if_neg k2, if_neg k3, if_pos k4]
    unfold swapD
    rw [look_ofN]
    cases lookL L o.nm with
    | none => exact ⟨rfl, rfl⟩
    | some f =>
      simp only
      split
      · exact ⟨rfl, rfl⟩
      · split
        · exact ⟨rfl, rfl⟩
        · refine ⟨rfl, ?_⟩
          rw [ofN_put_same (hsw k4), ofN_del]
  by_cases k5 : o.kd = 5
  · rw [if_neg k0, if_neg k1, if_neg k2, if_neg k3, if_neg k4, if_pos k5, if_neg k0, if_neg k1, if_neg k2, if_neg k3, if_neg k4, if_pos k5]
    exact ⟨rfl, (ofN_crash _ _ L).symm⟩
  · rw [if_neg k0, if_neg k1, if_neg k2, if_neg k3, if_neg k4, if_neg k5, if_neg k0, if_neg k1, if_neg k2, if_neg k3, if_neg k4, if_neg k5]
    exact ⟨rfl, rfl⟩
theorem do_crash {room : Nat} {L : List Fl} {o : OpD} {s : ByteArray} (h : o.kd = 5) : (doD room (ofN s L) o).1 = (doD room L o).1 ∧ (doD room (ofN s L) o).2 = ofN s (doD room L o).2 := by
  unfold doD
  rw [h]
  exact ⟨rfl, (ofN_crash _ _ L).symm⟩
/-- What is done to another file leaves it. -/
theorem do_off {room : Nat} {L : List Fl} {o : OpD} {s : ByteArray} (hn : o.nm ≠ s) (hsw : o.kd = 4 → o.nt ≠ s) (h5 : o.kd ≠ 5) : ofN s (doD room L o).2 = ofN s L := by
  unfold doD
  by_cases k0 : o.kd = 0
  · rw [if_pos k0]; exact app_off hn
  by_cases k1 : o.kd = 1
  · rw [if_neg k0, if_pos k1]
    unfold syncD
    cases lookL L o.nm with
    | none => rfl
    | some f => exact ofN_upd_other hn
  by_cases k2 : o.kd = 2
  · rw [if_neg k0, if_neg k1, if_pos k2]
    unfold cutD
    cases lookL L o.nm with
    | none => rfl
    | some f =>
      simp only
      split
      · rfl
      · exact ofN_upd_other hn
  by_cases k3 : o.kd = 3
  · rw [if_neg k0, if_neg k1, if_neg k2, if_pos k3]
    unfold remD
    cases lookL L o.nm with
    | none => rfl
    | some f => exact ofN_del_other hn
  by_cases k4 : o.kd = 4
  · rw [if_neg k0, if_neg k1, if_neg k2, if_neg k3, if_pos k4]
    unfold swapD
    cases lookL L o.nm with
    | none => rfl
    | some f =>
      simp only
      split
      · rfl
      · split
        · rfl
        · rw [ofN_put_other (hsw k4), ofN_del_other hn]
  · rw [if_neg k0, if_neg k1, if_neg k2, if_neg k3, if_neg k4, if_neg h5]
theorem lenL_insL (x : Fl) : ∀ L : List Fl, lenL (insL x L) = x.2.1.length + lenL L
  | [] => rfl
  | y :: r => by
    unfold insL
    split
    · rfl
    · rw [lenL_cons, lenL_insL x r, lenL_cons]; omega
theorem lenL_del {L : List Fl} (hp : L.Pairwise fun a b => a.1 ≠ b.1) {s : ByteArray} {f : Fl} (h : lookL L s = some f) : lenL (delL L s) + f.2.1.length ≤ lenL L := by
  induction L with
  | nil => cases h
  | cons y r ih =>
    rw [List.pairwise_cons] at hp
    unfold lookL at h
    rw [List.find?_cons] at h
    unfold delL
    rw [List.filter_cons, lenL_cons]
    by_cases hy : y.1 = s
    · rw [decide_eq_true hy] at h ⊢
      injection h with h
      have := lenL_sub (List.filter_sublist (p := fun f : Fl => !decide (f.1 = s)) (l := r))
      simp only [Bool.not_true, Bool.false_eq_true, if_false]
      rw [h]; omega
    · rw [decide_eq_false hy] at h ⊢
      have := ih hp.2 h
      unfold delL at this
      simp only [Bool.not_false, if_true, lenL_cons]
      omega
/-- No call makes more bytes than it brings. -/
theorem do_len {room : Nat} {L : List Fl} (hp : L.Pairwise fun a b => a.1 ≠ b.1) (hn : ∀ f ∈ L, f.2.2 ≤ f.2.1.length) (o : OpD) : lenL (doD room L o).2 ≤ lenL L + o.bs.length := by
  unfold doD
  by_cases k0 : o.kd = 0
  · rw [if_pos k0]
    unfold appD
    split
    · exact Nat.le_add_right _ _
    · cases hl : lookL L o.nm with
      | none =>
        simp only
        split
        · exact Nat.le_add_right _ _
        · split
          · exact Nat.le_add_right _ _
          · show lenL (insL _ (delL L o.nm)) ≤ _
            have := lenL_sub (List.filter_sublist (p := fun f : Fl => !decide (f.1 = o.nm)) (l := L))
            rw [lenL_insL]
            show o.bs.length + lenL (delL L o.nm) ≤ _
            unfold delL; omega
      | some f =>
        simp only
        split
        · exact Nat.le_add_right _ _
        · have := upd_len_eq hl (o.nm, f.2.1 ++ o.bs, f.2.2) rfl hp
          simp only [List.length_append] at this
          show lenL (updL L _) ≤ _
          omega
  by_cases k1 : o.kd = 1
  · rw [if_neg k0, if_pos k1]
    unfold syncD
    cases hl : lookL L o.nm with
    | none => exact Nat.le_add_right _ _
    | some f =>
      have := upd_len_eq hl (o.nm, f.2.1, f.2.1.length) rfl hp
      simp only at this ⊢
      omega
  by_cases k2 : o.kd = 2
  · rw [if_neg k0, if_neg k1, if_pos k2]
    unfold cutD
    cases hl : lookL L o.nm with
    | none => exact Nat.le_add_right _ _
    | some f =>
      simp only
      split
      · exact Nat.le_add_right _ _
      · have := upd_len_eq hl (o.nm, f.2.1.take o.n.toNat, o.n.toNat) rfl hp
        simp only [List.length_take] at this
        show lenL (updL L _) ≤ _
        omega
  by_cases k3 : o.kd = 3
  · rw [if_neg k0, if_neg k1, if_neg k2, if_pos k3]
    unfold remD
    cases hl : lookL L o.nm with
    | none => exact Nat.le_add_right _ _
    | some f => exact Nat.le_trans (lenL_sub List.filter_sublist) (Nat.le_add_right _ _)
  by_cases k4 : o.kd = 4
  · rw [if_neg k0, if_neg k1, if_neg k2, if_neg k3, if_pos k4]
    unfold swapD
    cases hl : lookL L o.nm with
    | none => exact Nat.le_add_right _ _
    | some f =>
      simp only
      split
      · exact Nat.le_add_right _ _
      · split
        · exact Nat.le_add_right _ _
        · show lenL (insL _ (delL (delL L o.nm) o.nt)) ≤ _
          rw [lenL_insL]
          have h1 := lenL_del hp hl
          have h2 := lenL_sub (List.filter_sublist (p := fun f : Fl => !decide (f.1 = o.nt)) (l := delL L o.nm))
          show f.2.1.length + lenL (delL (delL L o.nm) o.nt) ≤ _
          unfold delL at h1 h2 ⊢
          omega
  by_cases k5 : o.kd = 5
  · rw [if_neg k0, if_neg k1, if_neg k2, if_neg k3, if_neg k4, if_pos k5]
    show lenL (crashD o.n L) ≤ _
    refine Nat.le_trans ?_ (Nat.le_add_right _ _)
    clear hp hn k0 k1 k2 k3 k4 k5
    induction L with
    | nil => exact Nat.le_refl _
    | cons y r ih =>
      unfold crashD at ih ⊢
      cases hc : crashF o.n y with
      | none => rw [List.filterMap_cons_none hc, lenL_cons]; omega
      | some g =>
        rw [List.filterMap_cons_some hc, lenL_cons, lenL_cons]
        unfold crashF at hc
        split at hc
        · cases hc
        · injection hc with hc
          have : g.2.1.length ≤ y.2.1.length := by rw [← hc]; show (y.2.1.take _).length ≤ _; rw [List.length_take]; omega
          omega
  · rw [if_neg k0, if_neg k1, if_neg k2, if_neg k3, if_neg k4, if_neg k5]; exact Nat.le_add_right _ _
end Go.Proofs.Ytnmbjhpecblioaa
