/-
  An index in memory: its three maps, the lists in them, and that no two of their blocks are one (each block has a role, which a tag tells).
-/
import Derived.Test.YtjgappbomohlcaaGreatDoorKGm
import Derived.Test.YtjgappbomohlcaaGreatDoorK03
import Derived.Test.YtjgappbomohlcaaGreatDoorK01
import Derived.Test.YtjgappbomohlcaaGreatDoorK02
namespace Go.Proofs.YtjgappbomohlcaaGreatDoor
section
set_option linter.unusedVariables false
set_option linter.unusedSimpArgs false
open Go.RowKit
noncomputable abbrev KT : KeyK Tryz.prog 9 ByteArray := keyT Tryz.underlying9
noncomputable abbrev KU : KeyK Tryz.prog 23 Nat := keyU Tryz.underlying23
/-- What a block is good for. -/
inductive Tag
  | no | box | ser | ref | post
  | name (s : ByteArray)
  | row (s v : ByteArray)
  | lab (n : Nat)
def Tag.isP : Tag → Prop
  | .post => True
  | .name _ => True
  | .row _ _ => True
  | _ => False
structure Gh where
  tg : Nat → Tag
  sb : Nat
  rb : Nat
  pb : Nat
  sE : List (Nat × Value)
  rE : List (ByteArray × Value)
  pE : List (ByteArray × Value)
  iE : ByteArray → List (ByteArray × Value)
  mb : ByteArray → Nat
  sl : ByteArray → ByteArray → Value
  ls : Nat → Value
structure PostE (w : World) (G : Gh) (F : Fp) : Prop where
  pm : MapG KT isMap w G.pb G.pE
  pt : G.tg G.pb = .post
  pl : ∀ n, lkG G.pE n = (F n).map fun _ => .map (some (G.mb n))
  im : ∀ n g, F n = some g → MapG KT isSlice w (G.mb n) (G.iE n) ∧ G.tg (G.mb n) = .name n ∧ ∀ v, lkG (G.iE n) v = (g v).map fun _ => G.sl n v
  ow : ∀ n g v l, F n = some g → g v = some l → w.ownsRow 0 23 1 (G.sl n v) l.length (l.map Un) ∧ ∀ b, (G.sl n v).ownBlock = some b → G.tg b = .row n v
section
variable {w w1 : World} {G : Gh} {F : Fp}
theorem PostE.moved (h : PostE w G F) (hk : ∀ k, (G.tg k).isP → w1.heap[k]? = w.heap[k]?) : PostE w1 G F where
  pm := h.pm.moved (hk _ (by rw [h.pt]; trivial))
  pt := h.pt
  pl := h.pl
  im n g hg := by
    obtain ⟨h1, h2, h3⟩ := h.im n g hg
    exact ⟨h1.moved (hk _ (by rw [h2]; trivial)), h2, h3⟩
  ow n g v l hg hl := by
    obtain ⟨h1, h2⟩ := h.ow n g v l hg hl
    exact ⟨own_moved h1 fun b hb => hk b (by rw [h2 b hb]; trivial), h2⟩
theorem PostE.retag (h : PostE w G F) {G1 : Gh} (hp : G1.pb = G.pb ∧ G1.pE = G.pE ∧ G1.iE = G.iE ∧ G1.mb = G.mb ∧ G1.sl = G.sl) (ht : ∀ k, (G.tg k).isP → G1.tg k = G.tg k) : PostE w G1 F := by
  obtain ⟨tg, sb, rb, pb, sE, rE, pE, iE, mb, sl, ls⟩ := G1
  obtain ⟨e1, e2, e3, e4, e5⟩ := hp
  simp only at e1 e2 e3 e4 e5 ht
  subst e1 e2 e3 e4 e5
  exact ⟨h.pm, (ht _ (by rw [h.pt]; trivial)).trans h.pt, h.pl, fun n g hg => by
    obtain ⟨h1, h2, h3⟩ := h.im n g hg
    exact ⟨h1, (ht _ (by rw [h2]; trivial)).trans h2, h3⟩, fun n g v l hg hl => by
    obtain ⟨h1, h2⟩ := h.ow n g v l hg hl
    exact ⟨h1, fun b hb => (ht _ (by rw [h2 b hb]; trivial)).trans (h2 b hb)⟩⟩
/-- A name that was not there, without values. -/
theorem PostE.newName (h : PostE w G F) (hal : ∀ k, G.tg k ≠ .no → k < w.heap.size) {n : ByteArray} (hn : F n = none) {nb : Nat} (hnb : w.heap.size ≤ nb) (h1 : MapG KT isSlice w1 nb []) (h2 : MapG KT isMap w1 G.pb (KT.put G.pE n (.map (some nb))))
    (hk : ∀ k, k < w.heap.size → k ≠ G.pb → w1.heap[k]? = w.heap[k]?) :
    PostE w1 { G with tg := fun k => if k = nb then .name n else G.tg k, pE := KT.put G.pE n (.map (some nb)), iE := fun m => if m = n then [] else G.iE m, mb := fun m => if m = n then nb else G.mb m } (setF F n (some noV)) := by
  have hlt : ∀ k, G.tg k ≠ .no → k ≠ nb := fun k hk e => by have := hal k hk; omega
  refine ⟨h2, ?_, fun m => ?_, fun m g hg => ?_, fun m g v l hg hl => ?_⟩
  · show (if G.pb = nb then _ else _) = _
    rw [if_neg (hlt _ (by rw [h.pt]; simp))]; exact h.pt
  · show lkG (KT.put G.pE n _) m = _
    rw [lk_put KT h.pm.nd]
    by_cases e : m = n
    · subst e; rw [if_pos rfl, setF_same]; simp
    · rw [if_neg e, setF_other _ _ e, h.pl]; simp [e]
  · by_cases e : m = n
    · subst e
      rw [setF_same] at hg; injection hg with hg; subst hg
      refine ⟨by simpa using h1, by simp, fun v => ?_⟩
      simp [lkG, noV]
    · rw [setF_other _ _ e] at hg
      obtain ⟨i1, i2, i3⟩ := h.im m g hg
      have hne := hlt (G.mb m) (by rw [i2]; simp)
      simp only [if_neg e]
      refine ⟨i1.moved (hk _ (hal _ (by rw [i2]; simp)) (fun e => by rw [e, h.pt] at i2; cases i2)), ?_, i3⟩
      rw [if_neg hne]; exact i2
  · by_cases e : m = n
    · subst e
      rw [setF_same] at hg; injection hg with hg; subst hg; cases hl
    · rw [setF_other _ _ e] at hg
      obtain ⟨o1, o2⟩ := h.ow m g v l hg hl
      refine ⟨own_moved o1 fun b hb => hk b (hal b (by rw [o2 b hb]; simp)) (fun e => by have := o2 b hb; rw [e, h.pt] at this; cases this), fun b hb => ?_⟩
      show (if b = nb then _ else _) = _
      rw [if_neg (hlt b (by rw [o2 b hb]; simp))]; exact o2 b hb
/-- A value's list, another one than before, or a new one. -/
theorem PostE.setList (h : PostE w G F) (hal : ∀ k, G.tg k ≠ .no → k < w.heap.size) {n v : ByteArray} {g : ByteArray → Option (List Nat)} {l : List Nat} {u : Value} (hn : F n = some g)
    (h2 : MapG KT isSlice w1 (G.mb n) (KT.put (G.iE n) v u)) (ho : w1.ownsRow 0 23 1 u l.length (l.map Un)) (hb : ∀ b, u.ownBlock = some b → w.heap.size ≤ b ∨ G.tg b = .row n v)
    (hk : ∀ k, k < w.heap.size → k ≠ G.mb n → G.tg k ≠ .row n v → w1.heap[k]? = w.heap[k]?) :
    PostE w1 { G with tg := fun k => if u.ownBlock = some k then .row n v else G.tg k, iE := fun m => if m = n then KT.put (G.iE n) v u else G.iE m, sl := fun m x => if m = n ∧ x = v then u else G.sl m x } (setF F n (some (setVP g v (some l)))) := by
  obtain ⟨i1, i2, i3⟩ := h.im n g hn
  have htg : ∀ k, G.tg k ≠ .no → G.tg k ≠ .row n v → u.ownBlock ≠ some k := fun k hk hr e => by
    rcases hb k e with h1 | h1
    · have := hal k hk; omega
    · exact hr h1
  refine ⟨?_, ?_, fun m => ?_, fun m g' hg => ?_, fun m g' x l' hg hl => ?_⟩
  · exact h.pm.moved (hk _ (hal _ (by rw [h.pt]; simp)) (fun e => by have h9 := h.pt; rw [e, i2] at h9; cases h9) (by rw [h.pt]; simp))
  · show (if u.ownBlock = some G.pb then _ else _) = _
    rw [if_neg (htg _ (by rw [h.pt]; simp) (by rw [h.pt]; simp))]; exact h.pt
  · show lkG G.pE m = _
    rw [h.pl]
    by_cases e : m = n
    · subst e; rw [setF_same, hn]; rfl
    · rw [setF_other _ _ e]
  · by_cases e : m = n
    · subst e
      rw [setF_same] at hg; injection hg with hg; subst hg
      simp only [if_true]
      refine ⟨h2, ?_, fun x => ?_⟩
      · rw [if_neg (htg _ (by rw [i2]; simp) (by rw [i2]; simp))]; exact i2
      · rw [lk_put KT i1.nd]
        by_cases ex : x = v
        · subst ex; rw [if_pos rfl, setVP_same]; simp
        · rw [if_neg ex, setVP_other _ _ ex, i3]; simp [ex]
    · rw [setF_other _ _ e] at hg
      obtain ⟨j1, j2, j3⟩ := h.im m g' hg
      simp only [if_neg e]
      refine ⟨j1.moved (hk _ (hal _ (by rw [j2]; simp)) (fun e2 => by rw [e2, i2] at j2; injection j2 with j2; exact e j2.symm) (by rw [j2]; simp)), ?_, fun x => ?_⟩
      · rw [if_neg (htg _ (by rw [j2]; simp) (by rw [j2]; simp))]; exact j2
      · rw [j3]; simp [e]
  · by_cases e : m = n ∧ x = v
    · obtain ⟨rfl, rfl⟩ := e
      rw [setF_same] at hg; injection hg with hg; subst hg
      rw [setVP_same] at hl; injection hl with hl; subst hl
      simp only [and_self, if_true]
      exact ⟨ho, fun b hb => by rw [if_pos hb]⟩
    · have old : ∃ g0, F m = some g0 ∧ g0 x = some l' := by
        by_cases em : m = n
        · subst em
          rw [setF_same] at hg; injection hg with hg; subst hg
          rw [setVP_other _ _ (fun ex => e ⟨rfl, ex⟩)] at hl
          exact ⟨g, hn, hl⟩
        · rw [setF_other _ _ em] at hg; exact ⟨g', hg, hl⟩
      obtain ⟨g0, hg0, hl0⟩ := old
      obtain ⟨o1, o2⟩ := h.ow m g0 x l' hg0 hl0
      simp only [if_neg e]
      refine ⟨own_moved o1 fun b hb => hk b (hal b (by rw [o2 b hb]; simp)) (fun e2 => by have := o2 b hb; rw [e2, i2] at this; cases this) (by rw [o2 b hb]; intro e2; injection e2 with a1 a2; exact e ⟨a1, a2⟩), fun b hb => ?_⟩
      rw [if_neg (htg b (by rw [o2 b hb]; simp) (by rw [o2 b hb]; intro e2; injection e2 with a1 a2; exact e ⟨a1, a2⟩))]; exact o2 b hb
/-- A value goes. -/
theorem PostE.delVal (h : PostE w G F) (hal : ∀ k, G.tg k ≠ .no → k < w.heap.size) {n v : ByteArray} {g : ByteArray → Option (List Nat)} (hn : F n = some g) (h2 : MapG KT isSlice w1 (G.mb n) (delG (G.iE n) v))
    (hk : ∀ k, k < w.heap.size → k ≠ G.mb n → w1.heap[k]? = w.heap[k]?) :
    PostE w1 { G with iE := fun m => if m = n then delG (G.iE n) v else G.iE m } (setF F n (some (setVP g v none))) := by
  obtain ⟨i1, i2, i3⟩ := h.im n g hn
  refine ⟨?_, h.pt, fun m => ?_, fun m g' hg => ?_, fun m g' x l' hg hl => ?_⟩
  · exact h.pm.moved (hk _ (hal _ (by rw [h.pt]; simp)) (fun e => by have := h.pt; rw [e, i2] at this; cases this))
  · show lkG G.pE m = _
    rw [h.pl]
    by_cases e : m = n
    · subst e; rw [setF_same, hn]; rfl
    · rw [setF_other _ _ e]
  · by_cases e : m = n
    · subst e
      rw [setF_same] at hg; injection hg with hg; subst hg
      simp only [if_true]
      refine ⟨h2, i2, fun x => ?_⟩
      rw [lk_del i1.nd]
      by_cases ex : x = v
      · subst ex; rw [if_pos rfl, setVP_same]; rfl
      · rw [if_neg ex, setVP_other _ _ ex, i3]
    · rw [setF_other _ _ e] at hg
      obtain ⟨j1, j2, j3⟩ := h.im m g' hg
      simp only [if_neg e]
      exact ⟨j1.moved (hk _ (hal _ (by rw [j2]; simp)) (fun e2 => by rw [e2, i2] at j2; injection j2 with j2; exact e j2.symm)), j2, j3⟩
  · have old : ∃ g0, F m = some g0 ∧ g0 x = some l' := by
      by_cases em : m = n
      · subst em
        rw [setF_same] at hg; injection hg with hg; subst hg
        by_cases ex : x = v
        · subst ex; rw [setVP_same] at hl; cases hl
        · rw [setVP_other _ _ ex] at hl; exact ⟨g, hn, hl⟩
      · rw [setF_other _ _ em] at hg; exact ⟨g', hg, hl⟩
    obtain ⟨g0, hg0, hl0⟩ := old
    obtain ⟨o1, o2⟩ := h.ow m g0 x l' hg0 hl0
    exact ⟨own_moved o1 fun b hb => hk b (hal b (by rw [o2 b hb]; simp)) (fun e2 => by have := o2 b hb; rw [e2, i2] at this; cases this), o2⟩
/-- A name goes. -/
theorem PostE.delName (h : PostE w G F) (hal : ∀ k, G.tg k ≠ .no → k < w.heap.size) {n : ByteArray} (h2 : MapG KT isMap w1 G.pb (delG G.pE n))
    (hk : ∀ k, k < w.heap.size → k ≠ G.pb → w1.heap[k]? = w.heap[k]?) :
    PostE w1 { G with pE := delG G.pE n } (setF F n none) := by
  refine ⟨h2, h.pt, fun m => ?_, fun m g' hg => ?_, fun m g' x l' hg hl => ?_⟩
  · show lkG (delG G.pE n) m = _
    rw [lk_del h.pm.nd]
    by_cases e : m = n
    · subst e; rw [if_pos rfl, setF_same]; rfl
    · rw [if_neg e, setF_other _ _ e, h.pl]
  · by_cases e : m = n
    · subst e; rw [setF_same] at hg; cases hg
    · rw [setF_other _ _ e] at hg
      obtain ⟨j1, j2, j3⟩ := h.im m g' hg
      exact ⟨j1.moved (hk _ (hal _ (by rw [j2]; simp)) (fun e2 => by rw [e2, h.pt] at j2; cases j2)), j2, j3⟩
  · by_cases e : m = n
    · subst e; rw [setF_same] at hg; cases hg
    · rw [setF_other _ _ e] at hg
      obtain ⟨o1, o2⟩ := h.ow m g' x l' hg hl
      exact ⟨own_moved o1 fun b hb => hk b (hal b (by rw [o2 b hb]; simp)) (fun e2 => by have := o2 b hb; rw [e2, h.pt] at this; cases this), o2⟩
end

/-- The number of the series whose labels have these bytes. -/
def refK (L : List Ser) (key : ByteArray) : Option Nat := (L.find? fun s => decide (keyB s.2 = key)).map (·.1)
theorem refK_at {L : List Ser} (h : Wf L) {l : List Lb} (hl : rightP l = 0) : refK L (keyB l) = refAt L l := by
  unfold refK refAt
  congr 1
  have : ∀ M : List Ser, (∀ s ∈ M, s ∈ L) → (M.find? fun s => decide (keyB s.2 = keyB l)) = M.find? fun s => decide (s.2 = l) := by
    intro M
    induction M with
    | nil => intro _; rfl
    | cons s r ih =>
      intro hM
      rw [List.find?_cons, List.find?_cons, ih fun t ht => hM t (List.mem_cons_of_mem _ ht)]
      have : decide (keyB s.2 = keyB l) = decide (s.2 = l) := by
        by_cases e : s.2 = l
        · rw [decide_eq_true e, e, decide_eq_true rfl]
        · rw [decide_eq_false e, decide_eq_false fun e2 => e (keyB_inj (h.right s (hM s List.mem_cons_self)) hl e2)]
      rw [this]
  exact this L fun s hs => hs
/-- An index in block xb: of these series; its names, values and numbers as F says. -/
structure IxF (w : World) (xb : Nat) (L : List Ser) (F : Fp) (G : Gh) : Prop where
  box : w.heap[xb]? = some (.cells #[.map (some G.sb), .map (some G.rb), .map (some G.pb)] 75 (0, 0))
  xt : G.tg xb = .box
  sm : MapG KU isSlice w G.sb G.sE
  st : G.tg G.sb = .ser
  sl : ∀ n, lkG G.sE n = (labAt L n).map fun _ => G.ls n
  la : ∀ s ∈ L, w.ownsRow 0 80 2 (G.ls s.1) s.2.length (lcells s.2) ∧ ∀ b, (G.ls s.1).ownBlock = some b → G.tg b = .lab s.1
  rm : MapG KT isNum w G.rb G.rE
  rt : G.tg G.rb = .ref
  rl : ∀ key, lkG G.rE key = (refK L key).map Un
  po : PostE w G F
  wf : Wf L
  al : ∀ k, G.tg k ≠ .no → k < w.heap.size
noncomputable abbrev IxE (w : World) (xb : Nat) (L : List Ser) (G : Gh) : Prop := IxF w xb L (restF L) G
section
variable {w w1 : World} {xb : Nat} {L : List Ser} {F : Fp} {G : Gh}
theorem IxF.moved (h : IxF w xb L F G) (hs : w.heap.size ≤ w1.heap.size) (hk : ∀ k, G.tg k ≠ .no → w1.heap[k]? = w.heap[k]?) : IxF w1 xb L F G where
  box := (hk _ (by rw [h.xt]; simp)).trans h.box
  xt := h.xt
  sm := h.sm.moved (hk _ (by rw [h.st]; simp))
  st := h.st
  sl := h.sl
  la s hs := by
    obtain ⟨h1, h2⟩ := h.la s hs
    exact ⟨own_moved h1 fun b hb => hk b (by rw [h2 b hb]; simp), h2⟩
  rm := h.rm.moved (hk _ (by rw [h.rt]; simp))
  rt := h.rt
  rl := h.rl
  po := h.po.moved fun k hp => hk k (fun e => by rw [e] at hp; exact hp)
  wf := h.wf
  al k hk' := Nat.lt_of_lt_of_le (h.al k hk') hs
theorem IxF.below (h : IxF w xb L F G) (hb : Below w.heap.size w w1) : IxF w1 xb L F G := h.moved hb.size fun k hk => hb.block k (h.al k hk)
theorem IxF.xlt (h : IxF w xb L F G) : xb < w.heap.size := h.al _ (by rw [h.xt]; simp)
theorem IxF.slen (h : IxF w xb L F G) : G.sE.length = L.length := by
  have := len_keys (l := L.map (·.1)) h.sm.nd h.wf.refs fun a => by
    rw [h.sl, Option.isSome_map, List.mem_map]
    cases hl : labAt L a with
    | none =>
      rw [labAt_none, ← Bool.not_eq_true, refIn_iff] at hl
      simp only [Option.isSome_none]
      exact ⟨fun e => (by cases e), fun ⟨s, hs, e⟩ => absurd ⟨s, hs, e⟩ hl⟩
    | some l => exact ⟨fun _ => ⟨_, labAt_some hl, rfl⟩, fun _ => rfl⟩
  rw [this, List.length_map]
theorem IxF.rlen (h : IxF w xb L F G) : G.rE.length = L.length := by
  have hnd : (L.map fun s => keyB s.2).Nodup := by
    rw [show (L.map fun s => keyB s.2) = (L.map (·.2)).map keyB by rw [List.map_map]; rfl]
    have := h.wf.labs
    have hr : ∀ l ∈ L.map (·.2), rightP l = 0 := fun l hl => by obtain ⟨s, hs, rfl⟩ := List.mem_map.1 hl; exact h.wf.right s hs
    revert this hr
    generalize L.map (·.2) = M
    induction M with
    | nil => intro _ _; exact List.nodup_nil
    | cons l r ih =>
      intro hn hr
      rw [List.nodup_cons] at hn
      rw [List.map_cons, List.nodup_cons]
      refine ⟨fun hm => ?_, ih hn.2 fun x hx => hr x (List.mem_cons_of_mem _ hx)⟩
      obtain ⟨m, hm, e⟩ := List.mem_map.1 hm
      exact hn.1 (keyB_inj (hr m (List.mem_cons_of_mem _ hm)) (hr l List.mem_cons_self) e ▸ hm)
  have := len_keys (l := L.map fun s => keyB s.2) h.rm.nd hnd fun a => by
    rw [h.rl, Option.isSome_map, List.mem_map]
    unfold refK
    rw [Option.isSome_map]
    cases hf : L.find? fun s => decide (keyB s.2 = a) with
    | none =>
      have := List.find?_eq_none.1 hf
      simp only [Option.isSome_none]
      exact ⟨fun e => (by cases e), fun ⟨s, hs, e⟩ => absurd (by simpa using e) (this s hs)⟩
    | some s => exact ⟨fun _ => ⟨s, List.mem_of_find?_eq_some hf, by simpa using List.find?_some hf⟩, fun _ => rfl⟩
  rw [this, List.length_map]
end
/-- What a call that changes an index leaves. -/
def IxOut (w : World) (xb : Nat) (G : Gh) (L : List Ser) (w' : World) : Prop :=
  ∃ G', IxE w' xb L G' ∧ Mv (fun k => G.tg k ≠ .no) w w' ∧ ∀ k, G'.tg k ≠ .no → G.tg k ≠ .no ∨ w.heap.size ≤ k
end
end Go.Proofs.YtjgappbomohlcaaGreatDoor
