/-
  Postings, plainly: names to values to numbers, as series make them; what one label more, or less, makes of that.
  Right: the plain answers' own.
  Texts that rise, each once, plainly.
-/
import Derived.Test.YtjgappbomohlcaaGreatDoorKPi
import Derived.Test.YtjgappbomohlcaaGreatDoorK02
import Derived.Test.YtjgappbomohlcaaGreatDoorKRst
namespace Go.Proofs.YtjgappbomohlcaaGreatDoor
section
set_option linter.unusedVariables false
set_option linter.unusedSimpArgs false
open Classical
/-- Names to values to numbers. -/
abbrev Fp := ByteArray → Option (ByteArray → Option (List Nat))
def setVP (g : ByteArray → Option (List Nat)) (v : ByteArray) (l : Option (List Nat)) : ByteArray → Option (List Nat) := fun u => if u = v then l else g u
def setF (F : Fp) (n : ByteArray) (g : Option (ByteArray → Option (List Nat))) : Fp := fun m => if m = n then g else F m
def noV : ByteArray → Option (List Nat) := fun _ => none
def valsF (F : Fp) (n : ByteArray) : ByteArray → Option (List Nat) := (F n).getD noV
def listF (F : Fp) (n v : ByteArray) : List Nat := (valsF F n v).getD []
noncomputable def vlF (L : List Ser) (n : ByteArray) : ByteArray → Option (List Nat) := fun v => if hasL L (n, v) = [] then none else some (hasL L (n, v))
noncomputable def restF (L : List Ser) : Fp := fun n => if ∃ v, hasL L (n, v) ≠ [] then some (vlF L n) else none
noncomputable def postF (F : Fp) (x : Lb) (n : Nat) : Fp := setF F x.1 (some (setVP (valsF F x.1) x.2 (some (listF F x.1 x.2 ++ [n]))))
theorem setF_same (F : Fp) (n : ByteArray) (g : Option (ByteArray → Option (List Nat))) : setF F n g n = g := if_pos rfl
theorem setF_other (F : Fp) {n m : ByteArray} (g : Option (ByteArray → Option (List Nat))) (h : m ≠ n) : setF F n g m = F m := if_neg h
theorem setVP_same (g : ByteArray → Option (List Nat)) (v : ByteArray) (l : Option (List Nat)) : setVP g v l v = l := if_pos rfl
theorem setVP_other (g : ByteArray → Option (List Nat)) {v u : ByteArray} (l : Option (List Nat)) (h : u ≠ v) : setVP g v l u = g u := if_neg h
theorem setF_setF (F : Fp) (n : ByteArray) (g h : Option (ByteArray → Option (List Nat))) : setF (setF F n g) n h = setF F n h := by
  funext m; unfold setF; split <;> simp_all
theorem setVP_setVP (g : ByteArray → Option (List Nat)) (v : ByteArray) (l m : Option (List Nat)) : setVP (setVP g v l) v m = setVP g v m := by
  funext u; unfold setVP; split <;> simp_all
theorem restF_vals (L : List Ser) (n v : ByteArray) : valsF (restF L) n v = if hasL L (n, v) = [] then none else some (hasL L (n, v)) := by
  unfold valsF restF
  split
  · rfl
  · rename_i h
    have : hasL L (n, v) = [] := by
      by_cases e : hasL L (n, v) = []
      · exact e
      · exact absurd ⟨v, e⟩ h
    rw [if_pos this]; rfl
theorem restF_list (L : List Ser) (n v : ByteArray) : listF (restF L) n v = hasL L (n, v) := by
  unfold listF
  rw [restF_vals]
  split
  · rename_i h; rw [h]; rfl
  · rfl
/-- What is known of all values of all names, is known of the whole. -/
theorem restF_ext {L : List Ser} {F : Fp} (h1 : ∀ n v, valsF F n v = if hasL L (n, v) = [] then none else some (hasL L (n, v))) (h2 : ∀ n, (∃ v, hasL L (n, v) ≠ []) ↔ F n ≠ none) : F = restF L := by
  funext n
  unfold restF
  cases hF : F n with
  | none =>
    have : ¬ ∃ v, hasL L (n, v) ≠ [] := by rw [h2, hF]; simp
    rw [if_neg this]
  | some g =>
    have : ∃ v, hasL L (n, v) ≠ [] := by rw [h2, hF]; simp
    rw [if_pos this]
    congr 1
    funext v
    have := h1 n v
    unfold valsF at this
    rw [hF] at this
    exact this
theorem restF_congr {L M : List Ser} (h : ∀ n v, hasL L (n, v) = hasL M (n, v)) : restF L = restF M := by
  unfold restF vlF
  funext n
  simp only [h]
theorem restF_none (L : List Ser) (n : Nat) : restF (L ++ [(n, [])]) = restF L := restF_congr fun m v => hasL_app_not _ _ (by simp)
theorem restF_post (L : List Ser) (n : Nat) (l : List Lb) {x : Lb} (hx : x ∉ l) : postF (restF (L ++ [(n, l)])) x n = restF (L ++ [(n, l ++ [x])]) := by
  have hh : ∀ m v, hasL (L ++ [(n, l ++ [x])]) (m, v) = if (m, v) = x then hasL (L ++ [(n, l)]) (m, v) ++ [n] else hasL (L ++ [(n, l)]) (m, v) := by
    intro m v
    by_cases e : (m, v) = x
    · rw [if_pos e, hasL_app _ _ (by rw [e]; simp), hasL_app_not _ _ (by rw [e]; exact hx)]
    · rw [if_neg e]
      by_cases e2 : (m, v) ∈ l
      · rw [hasL_app _ _ (List.mem_append_left _ e2), hasL_app _ _ e2]
      · rw [hasL_app_not _ _ (by rw [List.mem_append, List.mem_singleton]; rintro (h | h) <;> contradiction), hasL_app_not _ _ e2]
  obtain ⟨a, b⟩ := x
  refine restF_ext (fun m v => ?_) fun m => ?_
  · unfold postF valsF
    by_cases e1 : m = a
    · subst e1
      rw [setF_same]
      simp only [Option.getD_some]
      by_cases e2 : v = b
      · subst e2
        have e3 := hh m v
        rw [if_pos rfl] at e3
        rw [setVP_same, restF_list, e3, if_neg (by simp)]
      · have e3 := hh m v
        rw [if_neg (by simp [e2])] at e3
        rw [setVP_other _ _ e2, e3]
        exact restF_vals _ m v
    · have e3 := hh m v
      rw [if_neg (by simp [e1])] at e3
      rw [setF_other _ _ e1, e3]
      exact restF_vals _ m v
  · unfold postF
    by_cases e1 : m = a
    · subst e1
      rw [setF_same]
      refine ⟨fun _ => by simp, fun _ => ⟨b, by rw [hh, if_pos rfl]; simp⟩⟩
    · rw [setF_other _ _ e1]
      have : ∀ v, hasL (L ++ [(n, l ++ [(a, b)])]) (m, v) = hasL (L ++ [(n, l)]) (m, v) := fun v => by rw [hh, if_neg (by simp [e1])]
      simp only [this]
      unfold restF
      split
      · rename_i h; simp [h]
      · rename_i h; simp only [ne_eq, not_true_eq_false, iff_false]; exact h
/-! ### one label less -/
/-- The series with what is left of those of a number. -/
def dropL (L : List Ser) (n k : Nat) : List Ser := L.map fun s => if s.1 = n then (s.1, s.2.drop k) else s
theorem dropL_zero (L : List Ser) (n : Nat) : dropL L n 0 = L := by
  unfold dropL
  conv => rhs; rw [← List.map_id L]
  apply List.map_congr_left
  intro s _
  split <;> simp
theorem hasL_drop {L : List Ser} (hL : Wf L) (n k : Nat) (x : Lb) {l : List Lb} (hl : (n, l) ∈ L) : hasL (dropL L n k) x = if x ∈ l.drop k then hasL L x else (hasL L x).filter fun m => !decide (m = n) := by
  have key : ∀ M : List Ser, (∀ s ∈ M, s ∈ L) → hasL (dropL M n k) x = if x ∈ l.drop k then hasL M x else (hasL M x).filter fun m => !decide (m = n) := by
    intro M
    induction M with
    | nil => intro _; simp [dropL, hasL]
    | cons s r ih =>
      intro hM
      have ih := ih fun t ht => hM t (List.mem_cons_of_mem _ ht)
      have hs := hM s List.mem_cons_self
      unfold dropL hasL at ih ⊢
      rw [List.map_cons]
      by_cases e : s.1 = n
      · have e2 : s = (n, l) := hL.one hs hl e
        subst e2
        simp only [if_true]
        by_cases hx : x ∈ l.drop k
        · have hx2 : x ∈ l := List.mem_of_mem_drop hx
          rw [if_pos hx] at ih ⊢
          rw [List.filter_cons, if_pos (inL_iff.2 hx), List.filter_cons, if_pos (inL_iff.2 hx2), List.map_cons, List.map_cons, ih]
        · rw [if_neg hx] at ih ⊢
          rw [List.filter_cons, if_neg (by rw [inL_not hx]; simp), ih]
          by_cases hx2 : x ∈ l
          · rw [List.filter_cons (x := (n, l)), if_pos (inL_iff.2 hx2), List.map_cons, List.filter_cons, if_neg (by simp)]
          · rw [List.filter_cons (x := (n, l)), if_neg (by rw [inL_not hx2]; simp)]
      · rw [if_neg e]
        by_cases hx2 : x ∈ s.2
        · rw [List.filter_cons, if_pos (inL_iff.2 hx2), List.filter_cons (x := s), if_pos (inL_iff.2 hx2), List.map_cons, List.map_cons, ih]
          split
          · rfl
          · rw [List.filter_cons, if_pos (by simpa using e)]
        · have e9 : ∀ M : List Ser, List.filter (fun s => inL x s.2) (s :: M) = List.filter (fun s => inL x s.2) M := fun M => List.filter_cons_of_neg (by rw [inL_not hx2]; simp)
          rw [e9, e9, ih]
  exact key L fun s hs => hs
/-- A label's numbers without one; what is empty then goes. -/
noncomputable def unpostF (F : Fp) (x : Lb) (n : Nat) : Fp :=
  let l := (listF F x.1 x.2).filter fun m => !decide (m = n)
  let g := setVP (valsF F x.1) x.2 (if l = [] then none else some l)
  setF F x.1 (if ∀ v, g v = none then none else some g)
theorem restF_unpost {L : List Ser} (hL : Wf L) {n k : Nat} {l : List Lb} (hl : (n, l) ∈ L) (hk : k < l.length) (hd : l.Nodup) : unpostF (restF (dropL L n k)) l[k] n = restF (dropL L n (k + 1)) := by
  have hdr : l.drop k = l[k] :: l.drop (k + 1) := List.drop_eq_getElem_cons hk
  have hnd : (l.drop k).Nodup := List.Nodup.sublist (List.drop_sublist k l) hd
  rw [hdr, List.nodup_cons] at hnd
  have hh : ∀ m v, hasL (dropL L n (k + 1)) (m, v) = if (m, v) = l[k] then (hasL (dropL L n k) (m, v)).filter fun m => !decide (m = n) else hasL (dropL L n k) (m, v) := by
    intro m v
    rw [hasL_drop hL n _ _ hl, hasL_drop hL n _ _ hl, hdr]
    by_cases e : (m, v) = l[k]
    · rw [if_pos e, if_neg (by rw [e]; exact hnd.1), if_pos (by rw [e]; exact List.mem_cons_self)]
    · rw [if_neg e]
      by_cases e2 : (m, v) ∈ l.drop (k + 1)
      · rw [if_pos e2, if_pos (List.mem_cons_of_mem _ e2)]
      · rw [if_neg e2, if_neg (by rw [List.mem_cons]; rintro (h | h) <;> contradiction)]
  generalize dropL L n k = M at hh ⊢
  generalize dropL L n (k + 1) = M' at hh ⊢
  generalize l[k] = x at hh ⊢
  obtain ⟨a, b⟩ := x
  have hv : ∀ v, setVP (valsF (restF M) a) b (if ((listF (restF M) a b).filter fun m => !decide (m = n)) = [] then none else some ((listF (restF M) a b).filter fun m => !decide (m = n))) v = if hasL M' (a, v) = [] then none else some (hasL M' (a, v)) := by
    intro v
    have e3 := hh a v
    by_cases e2 : v = b
    · subst e2
      rw [if_pos rfl] at e3
      rw [setVP_same, e3, restF_list]
    · rw [if_neg (by simp [e2])] at e3
      rw [setVP_other _ _ e2, e3, restF_vals]
  refine restF_ext (fun m v => ?_) fun m => ?_
  · unfold unpostF
    by_cases e1 : m = a
    · subst e1
      unfold valsF at hv ⊢
      rw [setF_same]
      by_cases he : ∀ v, setVP ((restF M m).getD noV) b (if ((listF (restF M) m b).filter fun m => !decide (m = n)) = [] then none else some ((listF (restF M) m b).filter fun m => !decide (m = n))) v = none
      · have h3 := hv v
        rw [he v] at h3
        simp only [valsF]
        rw [if_pos he, ← h3]; rfl
      · simp only [valsF]
        rw [if_neg he]
        exact hv v
    · have e3 := hh m v
      rw [if_neg (by simp [e1])] at e3
      unfold valsF
      rw [setF_other _ _ e1, e3]
      exact restF_vals _ m v
  · unfold unpostF
    by_cases e1 : m = a
    · subst e1
      rw [setF_same]
      constructor
      · rintro ⟨v, h⟩
        have h3 := hv v
        rw [if_neg h] at h3
        rw [if_neg (fun he => by rw [he v] at h3; cases h3)]
        simp
      · intro h
        by_cases he : ∀ v, setVP (valsF (restF M) m) b (if ((listF (restF M) m b).filter fun m => !decide (m = n)) = [] then none else some ((listF (restF M) m b).filter fun m => !decide (m = n))) v = none
        · simp only at h
          rw [if_pos he] at h
          exact absurd rfl h
        · rw [not_forall] at he
          obtain ⟨v, hne⟩ := he
          rw [hv] at hne
          refine ⟨v, fun e => hne ?_⟩
          rw [if_pos e]
    · rw [setF_other _ _ e1]
      have : ∀ v, hasL M' (m, v) = hasL M (m, v) := fun v => by rw [hh, if_neg (by simp [e1])]
      simp only [this]
      unfold restF
      split
      · rename_i h; simp [h]
      · rename_i h; simp only [ne_eq, not_true_eq_false, iff_false]; exact h
theorem restF_cut {L : List Ser} (hL : Wf L) {n : Nat} {l : List Lb} (hl : (n, l) ∈ L) : restF (dropL L n l.length) = restF (cutL L n) := restF_congr fun m v => by
  rw [hasL_drop hL n _ _ hl, hasL_cut, if_neg (by simp)]
end
section
set_option linter.unusedVariables false
set_option linter.unusedSimpArgs false
open Go.RowKit
section
set_option maxHeartbeats 1600000
set_option maxRecDepth 100000
theorem rright_any (A : Option Addr) (c : Nat) (l : List Lb) (w : World) (hx : Rd w A (lcells l)) (hf : Few l) :
    Calls Tryz.prog 39 #[.slice A l.length c] w fun e w' => e = .returned (.int .i64 (rightP l : Nat)) ∧ Below w.heap.size w w' := by
  obtain ⟨R, hR⟩ : ∃ R, R = rightP l := ⟨_, rfl⟩
  rw [← hR]
  unfold rightP at hR
  have HF := Lib.hid hf
  have hfl := hf.1
  clear hf
  by_cases h16 : 16 < l.length
  · rw [if_pos h16] at hR
    subst hR
    have hz : (16 : Int) < (l.length : Int) := by omega
    go_enter Tryz.func39, Tryz.ntmps39
    go_wp2
    go_ret
    exact ⟨rfl, Below.refl _ _⟩
  · rw [if_neg h16] at hR
    have hz : ¬ (16 : Int) < (l.length : Int) := by omega
    have hst : R = rightGo (prevAt l 0) (l.drop 0) := hR
    have HST := Lib.hid hst; clear hst hR
    go_enter Tryz.func39, Tryz.ntmps39
    go_wp2
    go_loopw [10] (fun s10 wr => ∃ k : Nat, s10 = .int .i64 k ∧ k ≤ l.length ∧ Aside (Below w.heap.size w wr) ∧ Aside (R = rightGo (prevAt l k) (l.drop k))) (fun s10 _ => l.length - (intOf s10).toNat)
    case atStart => exact ⟨0, rfl, by omega, Below.refl _ _, HST.out⟩
    case round =>
      obtain ⟨k, rfl, hk, BW, E⟩ := hrel
      have k0 : (0 : Int) ≤ (k : Int) := by omega
      by_cases hlt : k < l.length
      · have k1 : (k : Int) < (l.length : Int) := by omega
        have hxr := hx.below BW.out
        obtain ⟨b, off, rfl, c0, c1⟩ := lb_at hxr hlt
        have hfx := HF.out.2 l[k] (List.getElem_mem hlt)
        have hE := E.out.trans (rightGo_step hlt)
        have HXR := Lib.hid hxr; clear hxr hx E
        have hprev : ∀ j, k = j + 1 → ∃ p : ByteArray, prevAt l k = some p ∧ wr.cell? ⟨b, off + j * 2, none⟩ = some (.string p) := by
          intro j hj
          subst hj
          have hjl : j < l.length := by omega
          obtain ⟨b', off', e, p0, _⟩ := lb_at HXR.out hjl
          injection e with e; injection e with e1 e2 _; subst e1; subst e2
          exact ⟨l[j].1, by simp [prevAt, hjl], p0⟩
        have hprev0 : k = 0 → prevAt l k = none := fun h => by subst h; rfl
        have HPREV := Lib.hid hprev; clear hprev
        have HPREV0 := Lib.hid hprev0; clear hprev0
        generalize l[k] = x at c0 c1 hfx hE
        obtain ⟨x1, x2⟩ := x
        simp only at hfx c0 c1
        obtain ⟨f1, f2⟩ := hfx
        have hbw : Below w.heap.size w (wr.alloc (.cells #[.string x1, .string x2] 80)) := BW.out.alloc BW.out.size _
        have HBW := Lib.hid hbw; clear hbw
        have hn := fun W => rnamed_any x1 W (by omega)
        have hv := fun W => rvalued_any x2 W (by omega)
        -- what each of the two says, and what the scan makes of it
        have F1 := Lib.hid (show namedP (bl x1) = false → R = 50 from fun h => by
          have hq : faultP (x1, x2) = 50 := by unfold faultP; rw [if_pos h]
          rw [hE, rightAt_fault (by omega), if_pos (by omega), hq])
        have F2 := Lib.hid (show namedP (bl x1) = true → valuedP (bl x2) = false → R = 51 from fun h h' => by
          have hq : faultP (x1, x2) = 51 := by unfold faultP; rw [if_neg (by simp [h]), if_pos h']
          rw [hE, rightAt_fault (by omega), if_pos (by omega), hq])
        have hq0 : namedP (bl x1) = true → valuedP (bl x2) = true → faultP (x1, x2) = 0 := fun h h' => by unfold faultP; rw [if_neg (by simp [h]), if_neg (by simp [h'])]
        have F3 := Lib.hid (show namedP (bl x1) = true → valuedP (bl x2) = true → x2.size = 0 → R = 51 from fun h h' hz => by
          rw [hE, rightAt_empty (hq0 h h') hz]; rfl)
        have F4 := Lib.hid (show namedP (bl x1) = true → valuedP (bl x2) = true → ¬ x2.size = 0 → prevAt l k = none → R = rightGo (prevAt l (k + 1)) (l.drop (k + 1)) from fun h h' hz hp => by
          rw [hE, hp, rightAt_first (hq0 h h') hz]; rfl)
        have F5 := Lib.hid (show namedP (bl x1) = true → valuedP (bl x2) = true → ¬ x2.size = 0 → ∀ p, prevAt l k = some p → R = if bl p < bl x1 then rightGo (prevAt l (k + 1)) (l.drop (k + 1)) else 53 from fun h h' hz p hp => by
          rw [hE, hp, rightAt_next (hq0 h h') hz]
          by_cases hh : bl p < bl x1
          · simp [hh]
          · simp [hh])
        clear hE hq0
        generalize namedP (bl x1) = nb at hn F1 F2 F3 F4 F5
        generalize valuedP (bl x2) = vb at hv F2 F3 F4 F5
        have HN := Lib.hid hn; clear hn
        have HV := Lib.hid hv; clear hv
        cases nb with
        | false =>
          have hr : R = 50 := F1.out rfl
          subst hr
          go_wp2_with fail
          refine (HN.out _).mono ?_
          rintro e w1 ⟨rfl, rfl⟩
          go_wp2
          go_ret
          exact ⟨rfl, HBW.out⟩
        | true =>
          cases vb with
          | false =>
            have hr : R = 51 := F2.out rfl rfl
            subst hr
            go_wp2_with fail
            refine (HN.out _).mono ?_
            rintro e w1 ⟨rfl, rfl⟩
            go_wp2_with fail
            refine (HV.out _).mono ?_
            rintro e w1 ⟨rfl, n, rfl⟩
            go_wp2
            go_ret
            exact ⟨rfl, below_drewN HBW.out _⟩
          | true =>
            by_cases hz2 : x2.size = 0
            · have hr : R = 51 := F3.out rfl rfl hz2
              subst hr
              obtain rfl := size_zero hz2
              go_wp2_with fail
              refine (HN.out _).mono ?_
              rintro e w1 ⟨rfl, rfl⟩
              go_wp2_with fail
              refine (HV.out _).mono ?_
              rintro e w1 ⟨rfl, n, rfl⟩
              go_wp2
              go_ret
              exact ⟨rfl, below_drewN HBW.out _⟩
            · obtain ⟨e1, e2⟩ := ne_empty hz2
              by_cases hk0 : k = 0
              · have hp := HPREV0.out hk0
                subst hk0
                rw [Nat.zero_mul, Nat.add_zero] at c0 c1
                have HE := Lib.hid (F4.out rfl rfl hz2 hp); clear hp hz2
                go_wp2_with fail
                refine (HN.out _).mono ?_
                rintro e w1 ⟨rfl, rfl⟩
                go_wp2_with fail
                refine (HV.out _).mono ?_
                rintro e w1 ⟨rfl, n, rfl⟩
                go_wp2_with fail
                go_quiet (fail)
                go_wp2
                go_roundw
                case rel => exact ⟨1, by go_num, by omega, (show Aside _ from below_drewN HBW.out _), (show Aside _ from HE.out)⟩
                case measure => simp [intOf]; omega
              · obtain ⟨j, rfl⟩ : ∃ j, k = j + 1 := ⟨k - 1, by omega⟩
                obtain ⟨p, hp, hpc⟩ := HPREV.out j rfl
                have hle := fun u => leq_text (P := Tryz.prog) 9 x1 p u
                have hpa := Lib.cell?_alloc_some (.cells #[.string x1, .string x2] 80) hpc
                have g0 : (0 : Int) < (j : Int) + 1 := by omega
                have g1 : (j : Int) + 1 < (l.length : Int) := by omega
                have g2 : (0 : Int) ≤ (j : Int) + 1 := by omega
                have g3 : (0 : Int) ≤ (j : Int) := by omega
                have g4 : (j : Int) < (l.length : Int) := by omega
                have g5 : j < l.length := by omega
                have g6 : j + 1 < l.length := by omega
                have hE2 := F5.out rfl rfl hz2 p hp
                have b0 := cell_blk (heap_alloc_new wr (.cells #[.string x1, .string x2] 80)) 0
                simp only [List.getElem?_toArray, List.getElem?_cons_zero] at b0
                clear hz2 hpc hp
                have HB0 := Lib.hid b0; clear b0
                have HPA := Lib.hid hpa; clear hpa
                by_cases hlt2 : bl p < bl x1
                · rw [if_pos hlt2] at hE2
                  simp only [hlt2, decide_true, Bool.not_true] at hle
                  have HE := Lib.hid hE2; clear hE2 hlt2
                  go_wp2_with fail
                  refine (HN.out _).mono ?_
                  rintro e w1 ⟨rfl, rfl⟩
                  go_wp2_with fail
                  refine (HV.out _).mono ?_
                  rintro e w1 ⟨rfl, n, rfl⟩
                  obtain ⟨V, hV⟩ : ∃ V, V = (wr.alloc (.cells #[.string x1, .string x2] 80)).drewN n := ⟨_, rfl⟩
                  have b0 : V.cell? ⟨wr.heap.size, 0, none⟩ = some (.string x1) := by rw [hV]; exact HB0.out
                  have b1 : V.cell? ⟨wr.heap.size, 1, none⟩ = some (.string x2) := by rw [hV]; exact (cell_blk (heap_alloc_new wr (.cells #[.string x1, .string x2] 80)) 1)
                  have p1 : V.cell? ⟨b, off + j * 2, none⟩ = some (.string p) := by rw [hV]; exact HPA.out
                  have HV2 := Lib.hid hV
                  rw [← hV]
                  clear hV
                  go_wp2_with fail
                  go_quiet (fail)
                  go_wp2
                  go_roundw
                  case rel => exact ⟨j + 1 + 1, by go_num, by omega, (show Below w.heap.size w _ from by rw [HV2.out]; exact below_drewN (below_drewN HBW.out _) _), (show Aside _ from HE.out)⟩
                  case measure => simp [intOf]; omega
                · rw [if_neg hlt2] at hE2
                  simp only [hlt2, decide_false, Bool.not_false] at hle
                  subst hE2
                  clear hlt2
                  go_wp2_with fail
                  refine (HN.out _).mono ?_
                  rintro e w1 ⟨rfl, rfl⟩
                  go_wp2_with fail
                  refine (HV.out _).mono ?_
                  rintro e w1 ⟨rfl, n, rfl⟩
                  obtain ⟨V, hV⟩ : ∃ V, V = (wr.alloc (.cells #[.string x1, .string x2] 80)).drewN n := ⟨_, rfl⟩
                  have b0 : V.cell? ⟨wr.heap.size, 0, none⟩ = some (.string x1) := by rw [hV]; exact HB0.out
                  have b1 : V.cell? ⟨wr.heap.size, 1, none⟩ = some (.string x2) := by rw [hV]; exact (cell_blk (heap_alloc_new wr (.cells #[.string x1, .string x2] 80)) 1)
                  have p1 : V.cell? ⟨b, off + j * 2, none⟩ = some (.string p) := by rw [hV]; exact HPA.out
                  have HV2 := Lib.hid hV
                  rw [← hV]
                  clear hV
                  go_wp2_with fail
                  go_quiet (fail)
                  go_wp2
                  go_ret
                  exact ⟨rfl, by rw [HV2.out]; exact below_drewN (below_drewN HBW.out _) _⟩
      · obtain rfl : k = l.length := by omega
        have hr : R = 0 := by rw [E.out, List.drop_length]; rfl
        subst hr
        go_wp2
        go_ret
        exact ⟨rfl, BW.out⟩
end
end
section
set_option linter.unusedVariables false
set_option linter.unusedSimpArgs false
/-- A rising list with a text. -/
def wordT (l : List ByteArray) (s : ByteArray) : List ByteArray := l.filter (fun x => decide (bl x < bl s)) ++ s :: l.filter (fun x => decide (bl s < bl x))
def riseT (l : List ByteArray) : List ByteArray := l.foldl wordT []
abbrev RisT (l : List ByteArray) : Prop := l.Pairwise fun a b => bl a < bl b
theorem blt_irr (a : ByteArray) : ¬ bl a < bl a := List.lt_irrefl _
theorem blt_tri (a b : ByteArray) : bl a < bl b ∨ a = b ∨ bl b < bl a := by
  by_cases h1 : bl a < bl b
  · exact .inl h1
  · by_cases h2 : bl b < bl a
    · exact .inr (.inr h2)
    · exact .inr (.inl (bl_inj (List.le_antisymm (List.not_lt.1 h2) (List.not_lt.1 h1))))
theorem wordT_mem {l : List ByteArray} {s x : ByteArray} : x ∈ wordT l s ↔ x = s ∨ x ∈ l := by
  unfold wordT
  simp only [List.mem_append, List.mem_cons, List.mem_filter, decide_eq_true_eq]
  constructor
  · rintro (⟨h1, _⟩ | rfl | ⟨h1, _⟩)
    · exact .inr h1
    · exact .inl rfl
    · exact .inr h1
  · rintro (rfl | h1)
    · exact .inr (.inl rfl)
    · rcases blt_tri x s with h2 | h2 | h2
      · exact .inl ⟨h1, h2⟩
      · exact .inr (.inl h2)
      · exact .inr (.inr ⟨h1, h2⟩)
theorem wordT_ris {l : List ByteArray} (h : RisT l) (s : ByteArray) : RisT (wordT l s) := by
  unfold wordT RisT
  rw [List.pairwise_append]
  refine ⟨h.filter _, ?_, ?_⟩
  · rw [List.pairwise_cons]
    exact ⟨fun x hx => by simpa using (List.mem_filter.1 hx).2, h.filter _⟩
  · intro x hx y hy
    have h1 : bl x < bl s := by simpa using (List.mem_filter.1 hx).2
    rcases List.mem_cons.1 hy with rfl | hy
    · exact h1
    · have h2 : bl s < bl y := by simpa using (List.mem_filter.1 hy).2
      exact List.lt_trans h1 h2
theorem foldT_mem (l : List ByteArray) : ∀ (a : List ByteArray) (x : ByteArray), x ∈ l.foldl wordT a ↔ x ∈ a ∨ x ∈ l := by
  induction l with
  | nil => simp
  | cons y r ih => intro a x; rw [List.foldl_cons, ih, wordT_mem, List.mem_cons, ← or_assoc, or_comm (a := x ∈ a)]
theorem foldT_ris (l : List ByteArray) : ∀ (a : List ByteArray), RisT a → RisT (l.foldl wordT a) := by
  induction l with
  | nil => exact fun a h => h
  | cons y r ih => exact fun a h => ih _ (wordT_ris h y)
theorem riseT_mem {l : List ByteArray} {x : ByteArray} : x ∈ riseT l ↔ x ∈ l := by unfold riseT; rw [foldT_mem]; simp
theorem riseT_ris (l : List ByteArray) : RisT (riseT l) := foldT_ris l [] List.Pairwise.nil
theorem risT_unique : ∀ {a b : List ByteArray}, RisT a → RisT b → (∀ x, x ∈ a ↔ x ∈ b) → a = b
  | [], [], _, _, _ => rfl
  | [], y :: b, _, _, h => by simpa using (h y).2 (by simp)
  | x :: a, [], _, _, h => by simpa using (h x).1 (by simp)
  | x :: a, y :: b, ha, hb, h => by
    have ha' := ha; have hb' := hb
    unfold RisT at ha' hb'
    rw [List.pairwise_cons] at ha' hb'
    have e : x = y := by
      have h1 := (h x).1 (by simp); have h2 := (h y).2 (by simp)
      rcases List.mem_cons.1 h1 with e | h1
      · exact e
      rcases List.mem_cons.1 h2 with e | h2
      · exact e.symm
      exact absurd (List.lt_trans (ha'.1 y h2) (hb'.1 x h1)) (blt_irr x)
    subst e
    rw [risT_unique ha'.2 hb'.2 fun z => ?_]
    have h3 := h z
    rw [List.mem_cons, List.mem_cons] at h3
    constructor
    · intro hz
      rcases h3.1 (.inr hz) with rfl | h4
      · exact absurd (ha'.1 z hz) (blt_irr z)
      · exact h4
    · intro hz
      rcases h3.2 (.inr hz) with rfl | h4
      · exact absurd (hb'.1 z hz) (blt_irr z)
      · exact h4
theorem riseT_of {l m : List ByteArray} (h : RisT l) (hm : ∀ x, x ∈ l ↔ x ∈ m) : l = riseT m := risT_unique h (riseT_ris m) fun x => by rw [riseT_mem, hm]
theorem riseT_congr {l m : List ByteArray} (hm : ∀ x, x ∈ l ↔ x ∈ m) : riseT l = riseT m := riseT_of (riseT_ris l) fun x => by rw [riseT_mem, hm]
theorem risT_nodup {l : List ByteArray} (h : RisT l) : l.Nodup := by
  refine List.Pairwise.imp (fun {a b} h e => ?_) h
  rw [e] at h; exact blt_irr _ h
theorem riseT_len (l : List ByteArray) : (riseT l).length ≤ l.length := nodup_le (risT_nodup (riseT_ris l)) fun x hx => riseT_mem.1 hx
/-- The names, and the values of a name, that series have. -/
def namesL (L : List Ser) : List ByteArray := riseT (L.flatMap fun s => s.2.map (·.1))
def valuesL (L : List Ser) (n : ByteArray) : List ByteArray := riseT (L.flatMap fun s => (s.2.filter fun x => decide (x.1 = n)).map (·.2))
theorem valuesL_mem {L : List Ser} {n v : ByteArray} : v ∈ valuesL L n ↔ ∃ s ∈ L, (n, v) ∈ s.2 := by
  unfold valuesL; rw [riseT_mem, List.mem_flatMap]
  simp only [List.mem_map, List.mem_filter, decide_eq_true_eq]
  constructor
  · rintro ⟨s, hs, ⟨a, b⟩, ⟨hx, rfl⟩, rfl⟩; exact ⟨s, hs, hx⟩
  · rintro ⟨s, hs, hx⟩; exact ⟨s, hs, (n, v), ⟨hx, rfl⟩, rfl⟩
/-- Sorted texts, each once. -/
theorem sort_ris {l : List ByteArray} {ss : List Bs} (hn : l.Nodup) (hp : ss.Perm (l.map bl)) : (ss.mergeSort fun x y => decide (x ≤ y)) = (riseT l).map bl := by
  have h1 := List.pairwise_mergeSort (le := fun x y : Bs => decide (x ≤ y)) (fun a b c h1 h2 => by
    simp only [decide_eq_true_eq] at *; exact List.le_trans h1 h2) (fun a b => by simp only [Bool.or_eq_true, decide_eq_true_eq]; exact List.le_total a b) ss
  have h2 : ((riseT l).map bl).Pairwise (fun x y => decide (x ≤ y) = true) := by
    rw [List.pairwise_map]
    exact (riseT_ris l).imp fun h => decide_eq_true (List.le_of_lt h)
  have hpr : (riseT l).Perm l := (List.perm_ext_iff_of_nodup (risT_nodup (riseT_ris l)) hn).2 fun _ => riseT_mem
  refine List.Perm.eq_of_pairwise (le := fun x y : Bs => decide (x ≤ y) = true) (fun a b _ _ h1 h2 => ?_) h1 h2 ((List.mergeSort_perm _ _).trans (hp.trans (hpr.map bl).symm))
  simp only [decide_eq_true_eq] at h1 h2
  exact List.le_antisymm h1 h2
end
end Go.Proofs.YtjgappbomohlcaaGreatDoor
