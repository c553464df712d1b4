/-
  The plain answers' parser in memory, while nothing is at fault and afterwards; the rune that comes next, and what is told of the first fault.
  What is told of the first fault; a part more.
  Escapes, as the plain answers read them.
  Single runes, and the last one of a span, as the plain answers read them.
  The last rune of a span, as the plain answers read it.
  Classes, as the plain answers read them.
-/
import Derived.Deep.AppendLies
import Derived.Test.YtinjdlplbficiaaGreatDoorRzc
import Derived.Test.YtinjdlplbficiaaGreatDoorRe
import Derived.Test.YtinjdlplbficiaaGreatDoorQn
namespace Go.Proofs.YtinjdlplbficiaaGreatDoor
set_option linter.unusedVariables false
set_option linter.unusedSimpArgs false
section
set_option linter.unusedVariables false
set_option linter.unusedSimpArgs false
open Go.RowKit
/-- A part of a pattern as the plain answers keep it. -/
structure Nd where
  k : Nat
  a : Nat
  b : Nat
  sp : Spans
  neg : Bool
/-- Which tree a part is. -/
def Rep (N : List Nd) : Nat → Re → Prop
  | i, .set sp neg => ∃ n, N[i]? = some n ∧ n.k = 0 ∧ n.sp = sp ∧ n.neg = neg
  | i, .none => ∃ n, N[i]? = some n ∧ n.k = 6
  | i, .cat x y => ∃ n, N[i]? = some n ∧ n.k = 1 ∧ n.a < i ∧ n.b < i ∧ Rep N n.a x ∧ Rep N n.b y
  | i, .alt x y => ∃ n, N[i]? = some n ∧ n.k = 2 ∧ n.a < i ∧ n.b < i ∧ Rep N n.a x ∧ Rep N n.b y
  | i, .star x => ∃ n, N[i]? = some n ∧ n.k = 3 ∧ n.a < i ∧ Rep N n.a x
  | i, .plus x => ∃ n, N[i]? = some n ∧ n.k = 4 ∧ n.a < i ∧ Rep N n.a x
  | i, .may x => ∃ n, N[i]? = some n ∧ n.k = 5 ∧ n.a < i ∧ Rep N n.a x
theorem Rep.lt {N : List Nd} {i : Nat} {r : Re} (h : Rep N i r) : i < N.length := by
  cases r <;> (unfold Rep at h; obtain ⟨n, h, _⟩ := h; exact (List.getElem?_eq_some_iff.mp h).1)
theorem get_more {N : List Nd} (M : List Nd) {i : Nat} {n : Nd} (h : N[i]? = some n) : (N ++ M)[i]? = some n := by
  rw [List.getElem?_append_left (List.getElem?_eq_some_iff.mp h).1]; exact h
theorem Rep.more {N : List Nd} (M : List Nd) : ∀ {r : Re} {i : Nat}, Rep N i r → Rep (N ++ M) i r
  | .set sp neg, i, ⟨n, h, k⟩ => ⟨n, get_more M h, k⟩
  | .none, i, ⟨n, h, k⟩ => ⟨n, get_more M h, k⟩
  | .cat x y, i, ⟨n, h, k, a, b, c, d⟩ => ⟨n, get_more M h, k, a, b, c.more M, d.more M⟩
  | .alt x y, i, ⟨n, h, k, a, b, c, d⟩ => ⟨n, get_more M h, k, a, b, c.more M, d.more M⟩
  | .star x, i, ⟨n, h, k, a, c⟩ => ⟨n, get_more M h, k, a, c.more M⟩
  | .plus x, i, ⟨n, h, k, a, c⟩ => ⟨n, get_more M h, k, a, c.more M⟩
  | .may x, i, ⟨n, h, k, a, c⟩ => ⟨n, get_more M h, k, a, c.more M⟩
theorem get_last (N : List Nd) (n : Nd) : (N ++ [n])[N.length]? = some n := by simp
/-- A part's cells, its set's slice given. -/
def ndC (u : Value) (n : Nd) : List Value := [.int .i64 (n.k : Nat), .int .i64 (n.a : Nat), .int .i64 (n.b : Nat), u, .bool n.neg]
def ndsC : List Value → List Nd → List Value
  | u :: us, a :: r => ndC u a ++ ndsC us r
  | _, _ => []
theorem ndsC_app : ∀ (us : List Value) (L : List Nd) (vs : List Value) (M : List Nd), us.length = L.length → ndsC (us ++ vs) (L ++ M) = ndsC us L ++ ndsC vs M
  | [], [], vs, M, _ => rfl
  | u :: us, a :: L, vs, M, h => by simp only [List.cons_append, ndsC, ndsC_app us L vs M (by simpa using h), List.append_assoc]
  | [], _ :: _, _, _, h => by simp at h
  | _ :: _, [], _, _, h => by simp at h
structure NsIs (w : World) (B : Nat) (v : Value) (us : List Value) (L : List Nd) : Prop where
  len : us.length = L.length
  row : w.ownsRow B 172 5 v L.length (ndsC us L)
  sp : ∀ (i : Nat) (u : Value) (a : Nd), us[i]? = some u → L[i]? = some a → w.ownsRow B 181 2 u a.sp.length (spC a.sp)
/-- What stays while a text is read: the text, and its runes' slice. -/
structure Env where
  s : ByteArray
  A : Option Addr
  c : Nat
def Env.pl (E : Env) : List Pc := placesAt 0 (bl E.s)
def Env.ch (E : Env) : List Pc := chAt 0 (bl E.s)
def Env.at' (E : Env) (l : List Pc) : Nat := E.pl.length - l.length
/-- The box of a parser. -/
def prC (E : Env) (i : Nat) (v : Value) (top : Int) (s : ByteArray) (size : Int) (plain : Bool) (bad : Nat) (e : Nat) (d : Nat) : Array Value :=
  #[.slice E.A E.ch.length E.c, .int .i64 (i : Nat), .int .i64 (E.s.size : Nat), v, .int .i64 top, .string s, .int .i64 size, .bool plain, .int .i64 (bad : Nat), .int .i64 (e : Nat), .int .i64 (d : Nat)]
/-- Nothing is at fault. -/
structure RP (w : World) (p : Nat) (E : Env) (l : List Pc) (d : Nat) (v : Value) (us : List Value) (N : List Nd) : Prop where
  box : ∃ top s size plain bad, w.heap[p]? = some (.cells (prC E (E.at' l) v top s size plain bad 0 d) 139 (0, 0))
  suf : l <:+ E.pl
  ne : l ≠ []
  ns : NsIs w (p + 1) v us N
  rd : Rd w E.A (chC E.ch)
  ab : ∀ b, E.A.map (·.block) = some b → b < p
  len : E.ch.length ≤ E.c ∧ E.c ≤ maxLen
  few : E.s.size ≤ 1000
/-- A fault was met. -/
structure RE (w : World) (p : Nat) (E : Env) (f : Flt) (v : Value) (M : Nat) : Prop where
  box : ∃ i top s size plain d, w.heap[p]? = some (.cells (prC E i v top s size plain f.1 f.2 d) 139 (0, 0))
  err : f.2 ≠ 0
  ns : ∃ n xs, n ≤ M ∧ w.ownsRow (p + 1) 172 5 v n xs
/-- The rune that comes next, as the plain answers tell it. -/
def nowR (l : List Pc) : Int := if nowP l = -1 then -2 else if nowP l = -2 then -1 else nowP l
theorem RP.ok {w : World} {p : Nat} {E : Env} {l : List Pc} {d : Nat} {v : Value} {us : List Value} {N : List Nd} (h : RP w p E l d v us N) : OkL l := by
  have hs : ∀ (m l : List Pc), OkL m → l <:+ m → l ≠ [] → OkL l := by
    intro m
    induction m with
    | nil => intro l h1 h2 h3; exact h1.elim
    | cons q t ih =>
      intro l h1 h2 h3
      rcases List.suffix_cons_iff.mp h2 with rfl | h2
      · exact h1
      · by_cases hq : q.2 = -1
        · have : t = [] := by unfold OkL at h1; rwa [if_pos hq] at h1
          subst this
          exact absurd (List.suffix_nil.mp h2) h3
        · have : OkL t := by unfold OkL at h1; rwa [if_neg hq] at h1
          exact ih l this h2 h3
  exact hs E.pl l (places_ok (bl E.s) 0) h.suf h.ne
theorem Env.len_eq (E : Env) : E.pl.length = E.ch.length + 1 := (chAt_len (bl E.s) 0).symm
theorem RP.pos {w : World} {p : Nat} {E : Env} {l : List Pc} {d : Nat} {v : Value} {us : List Value} {N : List Nd} (h : RP w p E l d v us N) : 1 ≤ l.length ∧ E.at' l + l.length = E.pl.length := by
  have h1 := List.length_pos_iff.2 h.ne
  have h2 := h.suf.length_le
  unfold Env.at'
  omega
theorem ok_end {l : List Pc} (h : OkL l) : nowP l = -1 ↔ l.length = 1 := by
  cases l with
  | nil => exact h.elim
  | cons q t =>
    unfold OkL at h
    constructor
    · intro e
      have e : q.2 = -1 := e
      rw [if_pos e] at h; subst h; rfl
    · intro e
      have : t = [] := List.eq_nil_of_length_eq_zero (by simpa using e)
      subst this
      by_cases hq : q.2 = -1
      · exact hq
      · rw [if_neg hq] at h; exact h.elim
/-- The rune that comes next, among the text's. -/
theorem RP.ch_at {w : World} {p : Nat} {E : Env} {l : List Pc} {d : Nat} {v : Value} {us : List Value} {N : List Nd} (h : RP w p E l d v us N) (hn : nowP l ≠ -1) :
    ∃ hl : E.at' l < E.ch.length, E.ch[E.at' l] = (atP l, plainC (nowP l)) := by
  obtain ⟨h1, h2⟩ := h.pos
  have h3 := E.len_eq
  have h4 : l.length ≠ 1 := fun e => hn ((ok_end h.ok).mpr e)
  refine ⟨by omega, ?_⟩
  obtain ⟨t, ht⟩ := h.suf
  have hlen : t.length = E.at' l := by have := congrArg List.length ht; rw [List.length_append] at this; omega
  cases l with
  | nil => simp at h1
  | cons q r =>
    have e1 : E.pl[E.at' (q :: r)]? = some q := by
      rw [← ht, ← hlen, List.getElem?_append_right (Nat.le_refl _), Nat.sub_self]; rfl
    have e2 : E.ch[E.at' (q :: r)]? = some (q.1, plainC q.2) := by
      unfold Env.ch chAt
      rw [List.getElem?_map, List.getElem?_dropLast, if_pos (by show E.at' (q :: r) < E.pl.length - 1; omega)]
      show Option.map _ E.pl[E.at' (q :: r)]? = _
      rw [e1]; rfl
    rw [List.getElem?_eq_getElem (by omega)] at e2
    injection e2
theorem NsIs.mv {S : Nat → Prop} {w w' : World} {B : Nat} {v : Value} {us : List Value} {L : List Nd} (h : NsIs w B v us L) (m : Mv S w w') (hS : ∀ k, B ≤ k → ¬ S k) : NsIs w' B v us L :=
  ⟨h.len, own_mv h.row m fun k hk => hS k (h.row.lt k hk).1, fun i u a hu ha => own_mv (h.sp i u a hu ha) m fun k hk => hS k ((h.sp i u a hu ha).lt k hk).1⟩
theorem RP.lt {w : World} {p : Nat} {E : Env} {l : List Pc} {d : Nat} {v : Value} {us : List Value} {N : List Nd} (h : RP w p E l d v us N) : p < w.heap.size := by
  obtain ⟨_, _, _, _, _, hb⟩ := h.box; exact blk_lt hb
theorem RE.lt {w : World} {p : Nat} {E : Env} {f : Flt} {v : Value} {M : Nat} (h : RE w p E f v M) : p < w.heap.size := by
  obtain ⟨_, _, _, _, _, _, hb⟩ := h.box; exact blk_lt hb
/-- The box turns, and nothing else: another place, or other things that do not matter. -/
theorem RP.turn {w w' : World} {p : Nat} {E : Env} {l l' : List Pc} {d d' : Nat} {v : Value} {us : List Value} {N : List Nd} (h : RP w p E l d v us N) (m : Mv (fun k => k = p) w w')
    (hb : ∃ top s size plain bad, w'.heap[p]? = some (.cells (prC E (E.at' l') v top s size plain bad 0 d') 139 (0, 0))) (hs : l' <:+ E.pl) (hn : l' ≠ []) : RP w' p E l' d' v us N :=
  ⟨hb, hs, hn, h.ns.mv m fun k hk => by omega, h.rd.blk fun b hb e => m.block b hb fun e2 => by have := h.ab b e; omega, h.ab, h.len, h.few⟩
/-- Other blocks turn. -/
theorem RP.other {S : Nat → Prop} {w w' : World} {p : Nat} {E : Env} {l : List Pc} {d : Nat} {v : Value} {us : List Value} {N : List Nd} (h : RP w p E l d v us N) (m : Mv S w w') (hS : ∀ k, k < w.heap.size → ¬ S k) : RP w' p E l d v us N := by
  obtain ⟨top, s, size, plain, bad, hb⟩ := h.box
  exact ⟨⟨top, s, size, plain, bad, (m.block _ (blk_lt hb) (hS _ (blk_lt hb))).trans hb⟩, h.suf, h.ne,
    ⟨h.ns.len, own_mv h.ns.row m fun k hk => hS k (h.ns.row.lt k hk).2, fun i u a hu ha => own_mv (h.ns.sp i u a hu ha) m fun k hk => hS k ((h.ns.sp i u a hu ha).lt k hk).2⟩,
    h.rd.blk fun b hb e => m.block b hb (hS b hb), h.ab, h.len, h.few⟩
theorem RP.below {w w' : World} {p : Nat} {E : Env} {l : List Pc} {d : Nat} {v : Value} {us : List Value} {N : List Nd} (h : RP w p E l d v us N) (m : Below w.heap.size w w') : RP w' p E l d v us N :=
  h.other (S := fun _ => False) (Mv.of_below m _) fun _ _ f => f
theorem prC_at (E : Env) (i : Nat) (v : Value) (top : Int) (s : ByteArray) (size : Int) (plain : Bool) (bad e d : Nat) :
    (prC E i v top s size plain bad e d)[0]? = some (.slice E.A E.ch.length E.c) ∧ (prC E i v top s size plain bad e d)[1]? = some (.int .i64 (i : Nat)) ∧ (prC E i v top s size plain bad e d)[2]? = some (.int .i64 (E.s.size : Nat)) ∧ (prC E i v top s size plain bad e d)[3]? = some v ∧
    (prC E i v top s size plain bad e d)[6]? = some (.int .i64 size) ∧ (prC E i v top s size plain bad e d)[7]? = some (.bool plain) ∧ (prC E i v top s size plain bad e d)[8]? = some (.int .i64 (bad : Nat)) ∧ (prC E i v top s size plain bad e d)[9]? = some (.int .i64 (e : Nat)) ∧ (prC E i v top s size plain bad e d)[10]? = some (.int .i64 (d : Nat)) := ⟨rfl, rfl, rfl, rfl, rfl, rfl, rfl, rfl, rfl⟩
/-- The box's cells. -/
theorem RP.cells {w : World} {p : Nat} {E : Env} {l : List Pc} {d : Nat} {v : Value} {us : List Value} {N : List Nd} (h : RP w p E l d v us N) :
    ∃ top s size plain bad, w.heap[p]? = some (.cells (prC E (E.at' l) v top s size plain bad 0 d) 139 (0, 0)) ∧ w.cell? ⟨p, 0, none⟩ = some (.slice E.A E.ch.length E.c) ∧ w.cell? ⟨p, 1, none⟩ = some (.int .i64 (E.at' l : Nat)) ∧ w.cell? ⟨p, 2, none⟩ = some (.int .i64 (E.s.size : Nat)) ∧ w.cell? ⟨p, 3, none⟩ = some v ∧
      w.cell? ⟨p, 6, none⟩ = some (.int .i64 size) ∧ w.cell? ⟨p, 7, none⟩ = some (.bool plain) ∧ w.cell? ⟨p, 8, none⟩ = some (.int .i64 (bad : Nat)) ∧ w.cell? ⟨p, 9, none⟩ = some (.int .i64 0) ∧ w.cell? ⟨p, 10, none⟩ = some (.int .i64 (d : Nat)) := by
  obtain ⟨top, s, size, plain, bad, hb⟩ := h.box
  obtain ⟨e0, e1, e2, e3, e6, e7, e8, e9, e10⟩ := prC_at E (E.at' l) v top s size plain bad 0 d
  exact ⟨top, s, size, plain, bad, hb, (cell_blk hb 0).trans e0, (cell_blk hb 1).trans e1, (cell_blk hb 2).trans e2, (cell_blk hb 3).trans e3, (cell_blk hb 6).trans e6, (cell_blk hb 7).trans e7, (cell_blk hb 8).trans e8, (cell_blk hb 9).trans e9, (cell_blk hb 10).trans e10⟩
theorem RE.cells {w : World} {p : Nat} {E : Env} {f : Flt} {v : Value} {M : Nat} (h : RE w p E f v M) :
    ∃ i top s size plain d, w.heap[p]? = some (.cells (prC E i v top s size plain f.1 f.2 d) 139 (0, 0)) ∧ w.cell? ⟨p, 0, none⟩ = some (.slice E.A E.ch.length E.c) ∧ w.cell? ⟨p, 1, none⟩ = some (.int .i64 (i : Nat)) ∧ w.cell? ⟨p, 3, none⟩ = some v ∧
      w.cell? ⟨p, 6, none⟩ = some (.int .i64 size) ∧ w.cell? ⟨p, 7, none⟩ = some (.bool plain) ∧ w.cell? ⟨p, 8, none⟩ = some (.int .i64 (f.1 : Nat)) ∧ w.cell? ⟨p, 9, none⟩ = some (.int .i64 (f.2 : Nat)) ∧ w.cell? ⟨p, 10, none⟩ = some (.int .i64 (d : Nat)) := by
  obtain ⟨i, top, s, size, plain, d, hb⟩ := h.box
  obtain ⟨e0, e1, e2, e3, e6, e7, e8, e9, e10⟩ := prC_at E i v top s size plain f.1 f.2 d
  exact ⟨i, top, s, size, plain, d, hb, (cell_blk hb 0).trans e0, (cell_blk hb 1).trans e1, (cell_blk hb 3).trans e3, (cell_blk hb 6).trans e6, (cell_blk hb 7).trans e7, (cell_blk hb 8).trans e8, (cell_blk hb 9).trans e9, (cell_blk hb 10).trans e10⟩
section
set_option maxHeartbeats 1600000
set_option maxRecDepth 100000
theorem now_err (p : Nat) (E : Env) (f : Flt) (v : Value) (M : Nat) (w : World) (h : RE w p E f v M) : Calls Tryz.prog 103 #[.pointer (some ⟨p, 0, none⟩)] w fun e w' => e = .returned (.int .i32 (-2)) ∧ ∃ q, w' = w.drewN q := by
  obtain ⟨i, top, s, size, plain, d, hb, c0, c1, c3, c6, c7, c8, c9, c10⟩ := h.cells
  have he := h.err
  have f1 : ((f.2 : Int) != 0) = true := by rw [bne_iff_ne]; omega
  have f2 : ((f.2 : Int) == 0) = false := by rw [beq_eq_false_iff_ne]; omega
  generalize f.2 = fe at *
  clear h hb he
  by_cases hi : E.ch.length ≤ i
  · have d1 : decide ((E.ch.length : Int) ≤ (i : Int)) = true := by simp; omega
    have d2 : (E.ch.length : Int) ≤ (i : Int) := by omega
    go_enter Tryz.func103, Tryz.ntmps103
    go_wp2
    go_quiet (fail)
    go_wp2
    go_ret
    exact ⟨rfl, _, rfl⟩
  · have d1 : decide ((E.ch.length : Int) ≤ (i : Int)) = false := by simp; omega
    have d2 : ¬ (E.ch.length : Int) ≤ (i : Int) := by omega
    go_enter Tryz.func103, Tryz.ntmps103
    go_wp2
    go_quiet (fail)
    go_wp2
    go_ret
    exact ⟨rfl, _, rfl⟩
theorem now_is (p : Nat) (E : Env) (l : List Pc) (d : Nat) (v : Value) (us : List Value) (N : List Nd) (w : World) (h : RP w p E l d v us N) : Calls Tryz.prog 103 #[.pointer (some ⟨p, 0, none⟩)] w fun e w' => e = .returned (.int .i32 (nowR l)) ∧ ∃ q, w' = w.drewN q := by
  obtain ⟨top, s, size, plain, bad, hb, c0, c1, c2, c3, c6, c7, c8, c9, c10⟩ := h.cells
  obtain ⟨g1, g2⟩ := h.pos
  have g3 := E.len_eq
  unfold nowR
  by_cases hn : nowP l = -1
  · rw [if_pos hn]
    have hl := (ok_end h.ok).mp hn
    have d1 : decide ((E.ch.length : Int) ≤ (E.at' l : Int)) = true := by simp; omega
    have d0 : decide (E.ch.length ≤ E.at' l) = true := by simp; omega
    have d2 : (E.ch.length : Int) ≤ (E.at' l : Int) := by omega
    generalize E.at' l = i at *
    generalize E.ch.length = n at *
    clear h hb g1 g2 g3 hn hl
    go_enter Tryz.func103, Tryz.ntmps103
    go_wp2
    go_quiet (fail)
    go_wp2
    go_ret
    exact ⟨rfl, _, rfl⟩
  · rw [if_neg hn]
    obtain ⟨hl, hch⟩ := h.ch_at hn
    have hat := (chC_at E.ch (E.at' l) hl).1
    obtain ⟨b, off, hA, ca⟩ := h.rd _ _ hat
    rw [hch] at ca
    simp only at ca
    have hpl : plainC (nowP l) = if nowP l = -2 then -1 else nowP l := rfl
    rw [hpl] at ca
    rw [hA] at c0
    have d1 : decide ((E.ch.length : Int) ≤ (E.at' l : Int)) = false := by simp; omega
    have d0 : decide (E.ch.length ≤ E.at' l) = false := by simp; omega
    have d2 : ¬ (E.ch.length : Int) ≤ (E.at' l : Int) := by omega
    have d3 : (E.at' l : Int) < (E.ch.length : Int) := by omega
    have d4 : (0 : Int) ≤ (E.at' l : Int) := by omega
    clear h hb g1 g2 g3 hn hch hat hpl
    clear hl
    generalize (if nowP l = -2 then (-1 : Int) else nowP l) = x at *
    generalize E.at' l = i at *
    generalize E.ch.length = n at *
    go_enter Tryz.func103, Tryz.ntmps103
    go_wp2
    go_quiet (fail)
    go_wp2
    go_quiet (fail)
    go_wp2
    go_ret
    exact ⟨rfl, _, World.drewN_drewN _ _ _⟩
end
end
section
set_option linter.unusedVariables false
set_option linter.unusedSimpArgs false
open Go.RowKit
theorem end_at {w : World} {p : Nat} {E : Env} {l : List Pc} {d : Nat} {v : Value} {us : List Value} {N : List Nd} (h : RP w p E l d v us N) (hn : nowP l = -1) : atP l = E.s.size := by
  have hl : ∀ (b : Bs) (a : Nat) (m : List Pc), m <:+ placesAt a b → m.length = 1 → atP m = a + b.length := by
    intro b
    induction b using len_ind with
    | h0 =>
      intro a m h1 h2
      rw [placesAt_nil] at h1
      rcases List.suffix_cons_iff.mp h1 with rfl | h1
      · rfl
      · rw [List.suffix_nil.mp h1] at h2; cases h2
    | h1 b hb ih =>
      intro a m h1 h2
      rw [placesAt_step a hb] at h1
      have h3 := dL_le hb
      rcases List.suffix_cons_iff.mp h1 with rfl | h1
      · have := List.length_pos_iff.2 (placesAt_ne (b.drop (dL b).2) (a + (dL b).2))
        simp at h2 this
        exact absurd h2 (placesAt_ne _ _)
      · have := ih _ m h1 h2
        rw [List.length_drop] at this
        omega
  have := hl (bl E.s) 0 l h.suf ((ok_end h.ok).mp hn)
  rw [bl_len] at this
  omega
theorem prC_set1 (E : Env) (i j : Nat) (v : Value) (top : Int) (s : ByteArray) (size : Int) (plain : Bool) (bad e d : Nat) : (prC E i v top s size plain bad e d).setIfInBounds 1 (.int .i64 (j : Nat)) = prC E j v top s size plain bad e d := rfl
theorem prC_set3 (E : Env) (i : Nat) (v v' : Value) (top : Int) (s : ByteArray) (size : Int) (plain : Bool) (bad e d : Nat) : (prC E i v top s size plain bad e d).setIfInBounds 3 v' = prC E i v' top s size plain bad e d := rfl
theorem prC_set6 (E : Env) (i : Nat) (v : Value) (top : Int) (s : ByteArray) (size z : Int) (plain : Bool) (bad e d : Nat) : (prC E i v top s size plain bad e d).setIfInBounds 6 (.int .i64 z) = prC E i v top s z plain bad e d := rfl
theorem prC_set7 (E : Env) (i : Nat) (v : Value) (top : Int) (s : ByteArray) (size : Int) (plain z : Bool) (bad e d : Nat) : (prC E i v top s size plain bad e d).setIfInBounds 7 (.bool z) = prC E i v top s size z bad e d := rfl
theorem prC_set8 (E : Env) (i : Nat) (v : Value) (top : Int) (s : ByteArray) (size : Int) (plain : Bool) (bad e d z : Nat) : (prC E i v top s size plain bad e d).setIfInBounds 8 (.int .i64 (z : Nat)) = prC E i v top s size plain z e d := rfl
theorem prC_set9 (E : Env) (i : Nat) (v : Value) (top : Int) (s : ByteArray) (size : Int) (plain : Bool) (bad e d z : Nat) : (prC E i v top s size plain bad e d).setIfInBounds 9 (.int .i64 (z : Nat)) = prC E i v top s size plain bad z d := rfl
theorem prC_set10 (E : Env) (i : Nat) (v : Value) (top : Int) (s : ByteArray) (size : Int) (plain : Bool) (bad e d z : Nat) : (prC E i v top s size plain bad e d).setIfInBounds 10 (.int .i64 (z : Nat)) = prC E i v top s size plain bad e z := rfl
/-- The end of a fault's way: the box as it is then. -/
theorem RP.failed {w w' : World} {p : Nat} {E : Env} {l : List Pc} {d k M : Nat} {v : Value} {us : List Value} {N : List Nd} (h : RP w p E l d v us N) (m : Mv (fun k => k = p) w w') (hk : k ≠ 0) (hM : N.length ≤ M)
    (hb : ∃ i top s size plain d', w'.heap[p]? = some (.cells (prC E i v top s size plain (atP l) k d') 139 (0, 0))) : RE w' p E (atP l, k) v M :=
  ⟨hb, hk, N.length, _, hM, own_mv h.ns.row m fun j hj => by have := (h.ns.row.lt j hj).1; omega⟩
section
set_option maxHeartbeats 1600000
set_option maxRecDepth 100000
theorem fail_err (p k : Nat) (E : Env) (f : Flt) (v : Value) (M : Nat) (w : World) (h : RE w p E f v M) : Calls Tryz.prog 85 #[.pointer (some ⟨p, 0, none⟩), .int .i64 (k : Nat)] w fun e w' => e = .returned (.int .i64 0) ∧ w' = w := by
  obtain ⟨i, top, s, size, plain, d, hb, c0, c1, c3, c6, c7, c8, c9, c10⟩ := h.cells
  have he := h.err
  have f1 : ((f.2 : Int) != 0) = true := by rw [bne_iff_ne]; omega
  have f2 : ((f.2 : Int) == 0) = false := by rw [beq_eq_false_iff_ne]; omega
  generalize f.2 = fe at *
  clear h hb he
  go_enter Tryz.func85, Tryz.ntmps85
  go_wp2
  go_ret
  exact ⟨rfl, rfl⟩
theorem fail_is (p k : Nat) (E : Env) (l : List Pc) (d M : Nat) (v : Value) (us : List Value) (N : List Nd) (w : World) (h : RP w p E l d v us N) (hk : k ≠ 0) (hM : N.length ≤ M) :
    Calls Tryz.prog 85 #[.pointer (some ⟨p, 0, none⟩), .int .i64 (k : Nat)] w fun e w' => e = .returned (.int .i64 0) ∧ RE w' p E (atP l, k) v M ∧ Mv (fun k => k = p) w w' := by
  obtain ⟨top, s, size, plain, bad, hb, c0, c1, c2, c3, c6, c7, c8, c9, c10⟩ := h.cells
  obtain ⟨g1, g2⟩ := h.pos
  have g3 := E.len_eq
  have HF := Lib.hid (fun w' m hb => h.failed (w' := w') (k := k) (M := M) m hk hM hb)
  have HB := Lib.hid hb
  have f0 := fun i => free_blk hb i
  have hplt := h.lt
  by_cases hn : nowP l = -1
  · have hl := (ok_end h.ok).mp hn
    have hat := end_at h hn
    have d1 : decide ((E.at' l : Int) < (E.ch.length : Int)) = false := by simp; omega
    have d0 : decide (E.at' l < E.ch.length) = false := by simp; omega
    have d2 : ¬ (E.at' l : Int) < (E.ch.length : Int) := by omega
    rw [← hat] at c2
    have HP := Lib.hid (show ∀ W', W' = (w.setCell ⟨p, 9, none⟩ (.int .i64 (k : Nat))).setCell ⟨p, 8, none⟩ (.int .i64 (atP l : Nat)) → W'.heap[p]? = some (.cells (prC E (E.at' l) v top s size plain (atP l) k d) 139 (0, 0)) ∧ Mv (fun k => k = p) w W' from fun W' e => by
      subst e
      have k1 := set_blk hb 9 (.int .i64 (k : Nat))
      rw [prC_set9] at k1
      have k2 := set_blk k1 8 (.int .i64 (atP l : Nat))
      rw [prC_set8] at k2
      exact ⟨k2, ((Mv.refl (fun k => k = p) w).setCell (p := ⟨p, 9, none⟩) (fun _ => rfl) _).setCell (p := ⟨p, 8, none⟩) (fun _ => rfl) _⟩)
    clear h hb g1 g2 g3 hn hl hk hM hat
    generalize E.at' l = i at *
    generalize E.ch.length = n at *
    generalize atP l = x at *
    go_enter Tryz.func85, Tryz.ntmps85
    go_wp2
    go_quiet (fail)
    go_wp2
    go_ret
    obtain ⟨q1, q2⟩ := HP.out _ rfl
    exact ⟨rfl, HF.out _ (q2.drewN _) ⟨_, _, _, _, _, _, q1⟩, q2.drewN _⟩
  · obtain ⟨hl, hch⟩ := h.ch_at hn
    have hat := (chC_at E.ch (E.at' l) hl).2
    obtain ⟨b, off, hA, ca⟩ := h.rd _ _ hat
    rw [hch] at ca
    simp only at ca
    have hbp : b ≠ p := fun e => by have := h.ab b (by rw [hA]; rfl); omega
    rw [hA] at c0
    have d1 : decide ((E.at' l : Int) < (E.ch.length : Int)) = true := by simp; omega
    have d0 : decide (E.at' l < E.ch.length) = true := by simp; omega
    have d3 : (E.at' l : Int) < (E.ch.length : Int) := by omega
    have d4 : (0 : Int) ≤ (E.at' l : Int) := by omega
    have HP := Lib.hid (show ∀ W', W' = ((w.setCell ⟨p, 9, none⟩ (.int .i64 (k : Nat))).setCell ⟨p, 8, none⟩ (.int .i64 (E.s.size : Nat))).setCell ⟨p, 8, none⟩ (.int .i64 (atP l : Nat)) → W'.heap[p]? = some (.cells (prC E (E.at' l) v top s size plain (atP l) k d) 139 (0, 0)) ∧ Mv (fun k => k = p) w W' from fun W' e => by
      subst e
      have k1 := set_blk hb 9 (.int .i64 (k : Nat))
      rw [prC_set9] at k1
      have k2 := set_blk k1 8 (.int .i64 (E.s.size : Nat))
      rw [prC_set8] at k2
      have k3 := set_blk k2 8 (.int .i64 (atP l : Nat))
      rw [prC_set8] at k3
      exact ⟨k3, (((Mv.refl (fun k => k = p) w).setCell (p := ⟨p, 9, none⟩) (fun _ => rfl) _).setCell (p := ⟨p, 8, none⟩) (fun _ => rfl) _).setCell (p := ⟨p, 8, none⟩) (fun _ => rfl) _⟩)
    replace ca : w.cell? ⟨b, off + E.at' l * 2 + 1, none⟩ = some (.int .i64 (atP l : Nat)) := ca
    clear h hb g1 g2 g3 hn hk hM hat hch
    clear hl
    generalize E.at' l = i at *
    generalize E.ch.length = n at *
    generalize atP l = x at *
    go_enter Tryz.func85, Tryz.ntmps85
    go_wp2
    go_quiet (fail)
    go_wp2
    go_region
    all_goals go_wp2
    all_goals go_ret
    all_goals
      obtain ⟨q1, q2⟩ := HP.out _ rfl
      exact ⟨rfl, HF.out _ (q2.drewN _) ⟨_, _, _, _, _, _, q1⟩, q2.drewN _⟩
/-! ### more -/
theorem Mp.trans {p : Nat} {w w1 w2 : World} (h : Mv (fun k => k = p) w w1) (k : Mv (fun k => k = p) w1 w2) : Mv (fun k => k = p) w w2 := h.trans k fun _ _ h => h
theorem Mp.below {p : Nat} {w w1 w2 : World} (h : Mv (fun k => k = p) w w1) (k : Below w1.heap.size w1 w2) : Mv (fun k => k = p) w w2 := Mp.trans h (Mv.of_below k _)
theorem drewN_below (w : World) (q : Nat) : Below w.heap.size w (w.drewN q) := below_drewN (RowKit.Below.refl _ _) q
/-- The next rune, behind which the parser stands as it did. -/
theorem now_rp (p : Nat) (E : Env) (l : List Pc) (d : Nat) (v : Value) (us : List Value) (N : List Nd) (w : World) (h : RP w p E l d v us N) : Calls Tryz.prog 103 #[.pointer (some ⟨p, 0, none⟩)] w fun e w' => e = .returned (.int .i32 (nowR l)) ∧ RP w' p E l d v us N ∧ Mv (fun k => k = p) w w' :=
  (now_is p E l d v us N w h).mono fun e w' ⟨h1, q, h2⟩ => ⟨h1, by rw [h2]; exact h.below (drewN_below w q), by rw [h2]; exact Mv.of_below (drewN_below w q) _⟩
theorem RE.below {w w' : World} {p : Nat} {E : Env} {f : Flt} {v : Value} {M : Nat} (h : RE w p E f v M) (m : Below w.heap.size w w') : RE w' p E f v M := by
  obtain ⟨i, top, s, size, plain, d, hb⟩ := h.box
  obtain ⟨n, xs, hn, ho⟩ := h.ns
  exact ⟨⟨i, top, s, size, plain, d, (m.block _ (blk_lt hb)).trans hb⟩, h.err, n, xs, hn, own_mv (S := fun _ => False) ho (Mv.of_below m _) fun _ _ f => f⟩
theorem now_re (p : Nat) (E : Env) (f : Flt) (v : Value) (M : Nat) (w : World) (h : RE w p E f v M) : Calls Tryz.prog 103 #[.pointer (some ⟨p, 0, none⟩)] w fun e w' => e = .returned (.int .i32 (-2)) ∧ RE w' p E f v M ∧ Mv (fun k => k = p) w w' :=
  (now_err p E f v M w h).mono fun e w' ⟨h1, q, h2⟩ => ⟨h1, by rw [h2]; exact h.below (drewN_below w q), by rw [h2]; exact Mv.of_below (drewN_below w q) _⟩
theorem at_tail {w : World} {p : Nat} {E : Env} {l : List Pc} {d : Nat} {v : Value} {us : List Value} {N : List Nd} (h : RP w p E l d v us N) (hn : nowP l ≠ -1) : E.at' l.tail = E.at' l + 1 ∧ l.tail ≠ [] := by
  obtain ⟨h1, h2⟩ := h.pos
  have h4 : l.length ≠ 1 := fun e => hn ((ok_end h.ok).mpr e)
  refine ⟨?_, fun e => ?_⟩
  · unfold Env.at' at *
    rw [List.length_tail]; omega
  · have := congrArg List.length e
    rw [List.length_tail] at this
    simp at this; omega
/-- The parser goes past a rune. -/
theorem RP.pass {w : World} {p : Nat} {E : Env} {l : List Pc} {d : Nat} {v : Value} {us : List Value} {N : List Nd} (h : RP w p E l d v us N) (hn : nowP l ≠ -1) :
    (E.at' l.tail = E.at' l + 1) ∧ ∀ W', W' = w.setCell ⟨p, 1, none⟩ (.int .i64 ((E.at' l : Int) + 1)) → RP W' p E l.tail d v us N ∧ Mv (fun k => k = p) w W' := by
  obtain ⟨h1, h2⟩ := at_tail h hn
  refine ⟨h1, fun W' e => ?_⟩
  have m : Mv (fun k => k = p) w W' := by rw [e]; exact (Mv.refl (fun k => k = p) w).setCell (p := ⟨p, 1, none⟩) (fun _ => rfl) _
  obtain ⟨top, s, size, plain, bad, hb⟩ := h.box
  refine ⟨h.turn m ⟨top, s, size, plain, bad, ?_⟩ ((List.tail_suffix l).trans h.suf) h2, m⟩
  have k1 := set_blk hb 1 (.int .i64 ((E.at' l : Int) + 1))
  rw [show ((E.at' l : Int) + 1) = ((E.at' l + 1 : Nat) : Int) by omega, prC_set1, ← h1] at k1
  rw [e, show ((E.at' l : Int) + 1) = ((E.at' l.tail : Nat) : Int) by omega]
  rw [show E.at' l.tail = E.at' l + 1 from h1] at k1 ⊢
  exact k1
theorem RP.small {w : World} {p : Nat} {E : Env} {l : List Pc} {d : Nat} {v : Value} {us : List Value} {N : List Nd} (h : RP w p E l d v us N) : E.at' l ≤ 1001 := by
  have h3 := h.few
  obtain ⟨h1, h2⟩ := h.pos
  have h4 := places_len (bl E.s) 0
  rw [bl_len] at h4
  have h5 : E.pl.length ≤ E.s.size + 1 := h4
  omega
theorem infoNode : (Tryz.prog.info? 172).map (fun i => (i.zero, i.size, i.bytes)) = some (some (.agg #[.int .i64 0, .int .i64 0, .int .i64 0, .slice none 0 0, .bool false]), 5, 56) := by kernel_rfl
/-- A part more, at whatever box. -/
theorem add_box (p n : Nat) (cs : Array Value) (c3 : Value → Array Value) (k a b : Int) (u v : Value) (neg : Bool) (xs : List Value) (w : World) (hu : ∃ A m c, u = .slice A m c)
    (hb : w.heap[p]? = some (.cells (c3 v) 139 (0, 0))) (h3 : ∀ v, (c3 v)[3]? = some v) (hs : ∀ v v', (c3 v).setIfInBounds 3 v' = c3 v') (ho : w.ownsRow (p + 1) 172 5 v n xs) (hn : n ≤ 3000) :
    Calls Tryz.prog 104 #[.pointer (some ⟨p, 0, none⟩), .agg #[.int .i64 k, .int .i64 a, .int .i64 b, u, .bool neg]] w fun e w' => ∃ g cap, e = .returned (.int .i64 (n : Nat)) ∧ w'.heap[p]? = some (.cells (c3 (.slice (some ⟨g, 0, none⟩) (n + 1) cap)) 139 (0, 0)) ∧
      w'.ownsRow (p + 1) 172 5 (.slice (some ⟨g, 0, none⟩) (n + 1) cap) (n + 1) (xs ++ [.int .i64 k, .int .i64 a, .int .i64 b, u, .bool neg]) ∧ Mvd p v (.slice (some ⟨g, 0, none⟩) (n + 1) cap) w w' := by
  obtain ⟨Au, mu, cu, rfl⟩ := hu
  obtain ⟨W, hW⟩ : ∃ W, W = w.alloc (.cells #[.int .i64 k, .int .i64 a, .int .i64 b, .slice Au mu cu, .bool neg] 172) := ⟨_, rfl⟩
  have hb0 : RowKit.Below w.heap.size w W := by rw [hW]; exact (RowKit.Below.refl _ w).alloc (Nat.le_refl _) _
  have hbW := (hb0.block _ (blk_lt hb)).trans hb
  have hoW : W.ownsRow (p + 1) 172 5 v n xs := own_mv (S := fun _ => False) ho (Mv.of_below hb0 _) fun _ _ f => f
  have hs0 : W.heap.size = w.heap.size + 1 := by rw [hW]; simp
  have hone1 : W.heap[w.heap.size]? = some (.cells #[.int .i64 k, .int .i64 a, .int .i64 b, .slice Au mu cu, .bool neg] 172 (0, 0)) := by rw [hW]; exact heap_alloc_new _ _
  have o0 := cell_blk hone1 0
  have o1 := cell_blk hone1 1
  have o2 := cell_blk hone1 2
  have o3 := cell_blk hone1 3
  have o4 := cell_blk hone1 4
  simp only [List.getElem?_toArray, List.getElem?_cons_succ, List.getElem?_cons_zero] at o0 o1 o2 o3 o4
  have b3 := (cell_blk hbW 3).trans (h3 v)
  have hone : ∀ x ∈ ([.int .i64 k, .int .i64 a, .int .i64 b, .slice Au mu cu, .bool neg] : List Value), x.oneCell' = true := by
    intro x hx
    simp only [List.mem_cons, List.not_mem_nil, or_false] at hx
    rcases hx with rfl | rfl | rfl | rfl | rfl <;> rfl
  obtain ⟨i0, hi, hz0, hz1, hz2⟩ := info_g infoNode
  have HONE := Lib.hid hone
  have hpw : p < W.heap.size := blk_lt hbW
  have hpo : v.ownBlock ≠ some p := own_blk ho hb (by decide)
  -- behind the append and the store
  have HK := Lib.hid (show ∀ (w1 : World) (g cap : Nat), w1.ownsRow (p + 1) 172 5 (.slice (some ⟨g, 0, none⟩) (n + 1) cap) (n + 1) (xs ++ [.int .i64 k, .int .i64 a, .int .i64 b, .slice Au mu cu, .bool neg]) → Mv (fun k => v.ownBlock = some k) W w1 → (v.ownBlock = some g ∨ W.heap.size ≤ g) →
      w1.heap[p]? = some (.cells (c3 v) 139 (0, 0)) ∧ (w1.setCell ⟨p, 3, none⟩ (.slice (some ⟨g, 0, none⟩) (n + 1) cap)).heap[p]? = some (.cells (c3 (.slice (some ⟨g, 0, none⟩) (n + 1) cap)) 139 (0, 0)) ∧
      (w1.setCell ⟨p, 3, none⟩ (.slice (some ⟨g, 0, none⟩) (n + 1) cap)).ownsRow (p + 1) 172 5 (.slice (some ⟨g, 0, none⟩) (n + 1) cap) (n + 1) (xs ++ [.int .i64 k, .int .i64 a, .int .i64 b, .slice Au mu cu, .bool neg]) ∧ Mvd p v (.slice (some ⟨g, 0, none⟩) (n + 1) cap) w (w1.setCell ⟨p, 3, none⟩ (.slice (some ⟨g, 0, none⟩) (n + 1) cap)) from fun w1 g cap hown hm hg => by
    have kp := (hm.block p hpw hpo).trans hbW
    have k2 := set_blk kp 3 (.slice (some ⟨g, 0, none⟩) (n + 1) cap)
    rw [hs] at k2
    have mset : Mv (fun k => k = p) w1 (w1.setCell ⟨p, 3, none⟩ (.slice (some ⟨g, 0, none⟩) (n + 1) cap)) := (Mv.refl (fun k => k = p) w1).setCell (p := ⟨p, 3, none⟩) (fun _ => rfl) _
    have m2 : Mv (PM p v) W (w1.setCell ⟨p, 3, none⟩ (.slice (some ⟨g, 0, none⟩) (n + 1) cap)) := (hm.mono fun _ _ h => .inr h).setCell (fun _ => .inl rfl) _
    refine ⟨kp, k2, own_mv hown mset fun k hk e => by have := (hown.lt k hk).1; omega, (Mv.of_below hb0 _).trans m2 (fun i _ h => h), fun k hk => ?_⟩
    have : g = k := by simpa [Value.ownBlock] using hk
    subst this
    exact hg.imp id fun h => by omega)
  have HW := Lib.hid hW; have H3 := Lib.hid h3
  have hbase : p + 1 ≤ W.heap.size := by omega
  clear hW hb hb0 ho hone1 hone hs h3 hs0 hpo hbW
  go_enter Tryz.func104, Tryz.ntmps104
  go_wp2_with fail
  rw [← HW.out]
  go_region_law (
    (refine step_append_lies _ rfl (.tmp 10) (.tmp 12) 135 rfl (p + 1) 172 i0 (.agg #[.int .i64 0, .int .i64 0, .int .i64 0, .slice none 0 0, .bool false]) 5 56 Tryz.underlying135 hi hz0 hz1 hz2 rfl (by decide) v n xs rfl (own_mv (S := fun _ => False) hoW (by repeat (first | exact Mv.refl _ W | refine Mv.alloc ?_ _ | refine Mv.drew ?_)) fun _ _ f => f) ⟨W.heap.size, 0, none⟩ 1 1 [.int .i64 k, .int .i64 a, .int .i64 b, .slice Au mu cu, .bool neg] rfl rfl (World.news_of_block (by first | exact heap_alloc_new _ _ | exact heap_alloc_new W.drew _ | exact heap_alloc_new W _)) HONE.out (by omega) (by unfold maxLen; omega) (by omega) (Nat.le_trans hbase (Mv.size (S := fun _ => False) (by repeat (first | exact Mv.refl _ W | refine Mv.alloc ?_ _ | refine Mv.drew ?_)))) _ rfl ?_
     intro g cap w1 hown hgrow hg hlt
     have hmv : Mv (fun k => v.ownBlock = some k) W w1 := Mv.grown (w1 := _) (by repeat (first | exact Mv.refl _ W | refine Mv.alloc ?_ _ | refine Mv.drew ?_)) hgrow (fun k _ h => h)
     obtain ⟨kp, k2, k3, k4⟩ := HK.out w1 g cap hown hmv (hg.imp id fun e => by rw [e]; exact Mv.size (S := fun _ => False) (by repeat (first | exact Mv.refl _ W | refine Mv.alloc ?_ _ | refine Mv.drew ?_)))
     have ep1 := free_blk kp 3
     have kp1 := (cell_blk kp 3).trans (H3.out v)
     have K2 := Lib.hid k2; have K3 := Lib.hid k3; have K4 := Lib.hid k4; clear k2 k3 k4 hown hgrow hg hmv hlt kp))
  all_goals
    go_wp2
    go_ret
    exact ⟨g, cap, rfl, K2.out, K3.out, K4.out⟩
theorem NsIs.snoc {w w' : World} {p : Nat} {v v' u : Value} {us : List Value} {L : List Nd} {a : Nd} (h : NsIs w (p + 1) v us L) (m : Mv (PM p v) w w')
    (hr : w'.ownsRow (p + 1) 172 5 v' (L.length + 1) (ndsC us L ++ ndC u a)) (hu : w.ownsRow (p + 1) 181 2 u a.sp.length (spC a.sp)) : NsIs w' (p + 1) v' (us ++ [u]) (L ++ [a]) := by
  have hS : ∀ (u : Value) (n : Nat) (xs : List Value), w.ownsRow (p + 1) 181 2 u n xs → ∀ k, u.ownBlock = some k → ¬ PM p v k := fun u n xs ho k hk hP => by
    rcases hP with e | e
    · subst e; have := (ho.lt k hk).1; omega
    · exact own_own ho h.row (by decide) hk e
  refine ⟨by simp [h.len], by rw [ndsC_app _ _ _ _ h.len]; simpa [ndsC] using hr, fun i u' a' hu' ha' => ?_⟩
  by_cases hi : i < L.length
  · rw [List.getElem?_append_left (by rw [h.len]; exact hi)] at hu'
    rw [List.getElem?_append_left hi] at ha'
    exact own_mv (h.sp i u' a' hu' ha') m (hS _ _ _ (h.sp i u' a' hu' ha'))
  · have hi2 : i = L.length := by
      have := (List.getElem?_eq_some_iff.mp ha').1
      simp at this; omega
    subst hi2
    rw [List.getElem?_append_right (by rw [h.len]; omega), h.len, Nat.sub_self] at hu'
    rw [List.getElem?_append_right (by omega), Nat.sub_self] at ha'
    simp at hu' ha'
    subst hu'; subst ha'
    exact own_mv hu m (hS _ _ _ hu)
/-- A part more, while nothing is at fault. -/
theorem add_rp (p : Nat) (E : Env) (l : List Pc) (d : Nat) (v : Value) (us : List Value) (N : List Nd) (nd : Nd) (u : Value) (w : World) (h : RP w p E l d v us N) (hu : w.ownsRow (p + 1) 181 2 u nd.sp.length (spC nd.sp)) (hn : N.length ≤ 3000) :
    Calls Tryz.prog 104 #[.pointer (some ⟨p, 0, none⟩), .agg #[.int .i64 (nd.k : Nat), .int .i64 (nd.a : Nat), .int .i64 (nd.b : Nat), u, .bool nd.neg]] w fun e w' => ∃ v', e = .returned (.int .i64 (N.length : Nat)) ∧ RP w' p E l d v' (us ++ [u]) (N ++ [nd]) ∧ Mvd p v v' w w' := by
  obtain ⟨top, s, size, plain, bad, hb⟩ := h.box
  obtain ⟨Au, cu, hu2, -, -, -⟩ := own_rdg hu
  refine (add_box p N.length #[] (fun v => prC E (E.at' l) v top s size plain bad 0 d) nd.k nd.a nd.b u v nd.neg (ndsC us N) w ⟨Au, _, cu, hu2⟩ hb (fun _ => rfl) (fun v v' => prC_set3 E _ v v' top s size plain bad 0 d) h.ns.row hn).mono ?_
  rintro e w' ⟨g, cap, rfl, k1, k2, k3⟩
  refine ⟨_, rfl, ⟨⟨top, s, size, plain, bad, k1⟩, h.suf, h.ne, h.ns.snoc k3.mv k2 hu, h.rd.blk fun b hb' e => k3.mv.block b hb' fun hP => ?_, h.ab, h.len, h.few⟩, k3⟩
  have hbp := h.ab b e
  rcases hP with e2 | e2
  · omega
  · have := (h.ns.row.lt b e2).1; omega
/-- A part more, behind a fault. -/
theorem add_re (p : Nat) (E : Env) (f : Flt) (v : Value) (M : Nat) (k a b : Int) (u : Value) (neg : Bool) (w : World) (hu : ∃ A m c, u = .slice A m c) (h : RE w p E f v M) (hn : M ≤ 3000) :
    Calls Tryz.prog 104 #[.pointer (some ⟨p, 0, none⟩), .agg #[.int .i64 k, .int .i64 a, .int .i64 b, u, .bool neg]] w fun e w' => ∃ (v' : Value) (n : Nat), e = .returned (.int .i64 (n : Nat)) ∧ RE w' p E f v' (M + 1) ∧ Mvd p v v' w w' := by
  obtain ⟨i, top, s, size, plain, d, hb⟩ := h.box
  obtain ⟨n, xs, hnM, ho⟩ := h.ns
  refine (add_box p n #[] (fun v => prC E i v top s size plain f.1 f.2 d) k a b u v neg xs w hu hb (fun _ => rfl) (fun v v' => prC_set3 E _ v v' top s size plain f.1 f.2 d) ho (by omega)).mono ?_
  rintro e w' ⟨g, cap, rfl, k1, k2, k3⟩
  exact ⟨_, n, rfl, ⟨⟨i, top, s, size, plain, d, k1⟩, h.err, n + 1, _, by omega, k2⟩, k3⟩
end
end
section
set_option linter.unusedVariables false
set_option linter.unusedSimpArgs false
open Go.RowKit

/-- What an escape says, as spans. -/
def escG (l : List Pc) : Rs Spans :=
  match manyL l with
  | some g => .ok (g, l.tail.tail)
  | none => match rescP 0 l with | .error f => .error f | .ok (c, l1) => .ok ([(c, c)], l1)
def wideS (g : Spans) : Bool := !decide (g.length = 1) || g.any fun s => !decide (s.1 = s.2)
def OutE (p : Nat) (E : Env) (d : Nat) (v : Value) (us : List Value) (N : List Nd) (w : World) (r : Rs Spans) (e : Ending) (w' : World) : Prop :=
  match r with
  | .ok (g, l') => ∃ A c, e = .returned (.slice A g.length c) ∧ w'.ownsRow w.heap.size 181 2 (.slice A g.length c) g.length (spC g) ∧ RP w' p E l' d v us N ∧ Mv (fun k => k = p) w w'
  | .error f => e = .returned (.slice none 0 0) ∧ RE w' p E f v N.length ∧ Mv (fun k => k = p) w w'
theorem esc_many {l : List Pc} {g : Spans} (h92 : nowP l = 92) (h : manyP (nowP l.tail) = some g) : escG l = .ok (g, l.tail.tail) := by
  unfold escG manyL; rw [if_pos h92, h]
theorem esc_one {l : List Pc} (h92 : nowP l = 92) (h : manyP (nowP l.tail) = none) (h0 : 0 ≤ nowP l.tail) (hs : (specialP (nowP l.tail) || nowP l.tail == 45 || nowP l.tail == 47) = true) : escG l = .ok ([(nowP l.tail, nowP l.tail)], l.tail.tail) := by
  unfold escG manyL rescP; rw [if_pos h92, h, if_pos (by decide), decide_eq_true h0, hs]; rfl
theorem esc_no {l : List Pc} (h92 : nowP l = 92) (h : manyP (nowP l.tail) = none) (h0 : nowP l.tail < 0 ∨ (specialP (nowP l.tail) || nowP l.tail == 45 || nowP l.tail == 47) = false) : escG l = .error (atP l.tail, 8) := by
  unfold escG manyL rescP; rw [if_pos h92, h, if_pos (by decide)]
  rcases h0 with h0 | h0
  · rw [decide_eq_false (by omega)]; rfl
  · rw [h0, Bool.and_false]; rfl
theorem many_cases (c : Int) : (c = 100 ∧ manyP c = some [(48, 57)]) ∨ (c = 119 ∧ manyP c = some [(48, 57), (65, 90), (97, 122), (95, 95)]) ∨ (c = 115 ∧ manyP c = some [(32, 32), (9, 10)]) ∨ (c ≠ 100 ∧ c ≠ 119 ∧ c ≠ 115 ∧ manyP c = none) := by
  unfold manyP
  by_cases h1 : c = 100
  · exact .inl ⟨h1, by rw [if_pos h1]⟩
  · by_cases h2 : c = 119
    · exact .inr (.inl ⟨h2, by rw [if_neg h1, if_pos h2]⟩)
    · by_cases h3 : c = 115
      · exact .inr (.inr (.inl ⟨h3, by rw [if_neg h1, if_neg h2, if_pos h3]⟩))
      · exact .inr (.inr (.inr ⟨h1, h2, h3, by rw [if_neg h1, if_neg h2, if_neg h3]⟩))
section
set_option maxHeartbeats 1600000
set_option maxRecDepth 100000
theorem group_some (c : Int) (g : Spans) (w : World) (h : manyP c = some g) : Calls Tryz.prog 124 #[.int .i32 c] w fun e w' => ∃ A k, e = .returned (.slice A g.length k) ∧ w'.ownsRow w.heap.size 181 2 (.slice A g.length k) g.length (spC g) ∧ Below w.heap.size w w' := by
  have HB := Lib.hid (fun (o : Obj) => (RowKit.Below.refl w.heap.size w).alloc (Nat.le_refl _) o)
  rcases many_cases c with ⟨rfl, e⟩ | ⟨rfl, e⟩ | ⟨rfl, e⟩ | ⟨_, _, _, e⟩
  · rw [h] at e
    injection e with e
    subst e
    have HO := Lib.hid (own_fresh (w := w) (e := 181) (size := 2) (n := 1) (xs := spC [(48, 57)]) (spC_len _) (by decide))
    clear h
    go_enter Tryz.func124, Tryz.ntmps124
    go_wp2
    go_ret
    exact ⟨_, _, rfl, HO.out, HB.out _⟩
  · rw [h] at e
    injection e with e
    subst e
    have HO := Lib.hid (own_fresh (w := w) (e := 181) (size := 2) (n := 4) (xs := spC [(48, 57), (65, 90), (97, 122), (95, 95)]) (spC_len _) (by decide))
    clear h
    go_enter Tryz.func124, Tryz.ntmps124
    go_wp2
    go_ret
    exact ⟨_, _, rfl, HO.out, HB.out _⟩
  · rw [h] at e
    injection e with e
    subst e
    have HO := Lib.hid (own_fresh (w := w) (e := 181) (size := 2) (n := 2) (xs := spC [(32, 32), (9, 10)]) (spC_len _) (by decide))
    clear h
    go_enter Tryz.func124, Tryz.ntmps124
    go_wp2
    go_ret
    exact ⟨_, _, rfl, HO.out, HB.out _⟩
  · rw [h] at e; cases e
theorem group_none (c : Int) (w : World) (h : manyP c = none) : Calls Tryz.prog 124 #[.int .i32 c] w fun e w' => e = .returned (.slice none 0 0) ∧ w' = w := by
  rcases many_cases c with ⟨_, e⟩ | ⟨_, e⟩ | ⟨_, e⟩ | ⟨h1, h2, h3, e⟩
  · rw [h] at e; cases e
  · rw [h] at e; cases e
  · rw [h] at e; cases e
  · have a1 : (c == 100) = false := by rw [beq_eq_false_iff_ne]; exact h1
    have a2 : (c == 119) = false := by rw [beq_eq_false_iff_ne]; exact h2
    have a3 : (c == 115) = false := by rw [beq_eq_false_iff_ne]; exact h3
    clear h e h1 h2 h3
    go_enter Tryz.func124, Tryz.ntmps124
    go_wp2
    go_ret
    exact ⟨rfl, rfl⟩
theorem wide_any (A : Option Addr) (c : Nat) (g : Spans) (w : World) (h : Rd w A (spC g)) : Calls Tryz.prog 118 #[.slice A g.length c] w fun e w' => e = .returned (.bool (wideS g)) ∧ ∃ q, w' = w.drewN q := by
  by_cases h1 : g.length = 1
  · obtain ⟨⟨a, b⟩, rfl⟩ : ∃ s, g = [s] := by
      match g, h1 with
      | [s], _ => exact ⟨s, rfl⟩
    have e : wideS [(a, b)] = !decide (a = b) := by simp [wideS]
    rw [e]
    obtain ⟨b1, o1, rfl, c0⟩ := h 0 (.int .i32 a) rfl
    obtain ⟨b', o', e', c1⟩ := h 1 (.int .i32 b) rfl
    injection e' with e'; injection e' with e1 e2 _; subst e1; subst e2
    replace c0 : w.cell? ⟨b1, o1, none⟩ = some (.int .i32 a) := c0
    clear h h1 e
    by_cases hab : a = b
    · subst hab
      rw [decide_eq_true rfl]
      have q1 : (a != a) = false := by simp
      go_enter Tryz.func118, Tryz.ntmps118
      go_wp2
      go_quiet (fail)
      go_wp2
      go_ret
      exact ⟨rfl, _, rfl⟩
    · rw [decide_eq_false hab]
      have q1 : (a != b) = true := by rw [bne_iff_ne]; exact hab
      go_enter Tryz.func118, Tryz.ntmps118
      go_wp2
      go_quiet (fail)
      go_wp2
      go_ret
      exact ⟨rfl, _, rfl⟩
  · have e : wideS g = true := by unfold wideS; rw [decide_eq_false h1]; rfl
    rw [e]
    have q1 : ((g.length : Int) != 1) = true := by rw [bne_iff_ne]; omega
    have q2 : ((g.length : Int) == 1) = false := by rw [beq_eq_false_iff_ne]; omega
    clear h h1 e
    generalize g.length = n at *
    go_enter Tryz.func118, Tryz.ntmps118
    go_wp2
    go_quiet (fail)
    go_wp2
    go_ret
    exact ⟨rfl, _, rfl⟩
theorem special_not {c : Int} (h : c = 100 ∨ c = 119 ∨ c = 115) : specialP c = false := by rcases h with rfl | rfl | rfl <;> rfl
theorem special_ne {c : Int} (h : specialP c = true) : c ≠ 100 ∧ c ≠ 119 ∧ c ≠ 115 := by
  refine ⟨?_, ?_, ?_⟩ <;> (rintro rfl; cases h)
theorem escape_sign (p : Nat) (E : Env) (l : List Pc) (d : Nat) (v : Value) (us : List Value) (N : List Nd) (w : World) (h : RP w p E l d v us N) (h92 : nowP l = 92) (hmany : manyP (nowP l.tail) = none) (h0 : 0 ≤ nowP l.tail) (hs : specialP (nowP l.tail) = true) :
    Calls Tryz.prog 117 #[.pointer (some ⟨p, 0, none⟩)] w (OutE p E d v us N w (escG l)) := by
  have hn1 : nowP l ≠ -1 := by rw [h92]; decide
  obtain ⟨top, s, size, plain, bad, hb, c0, c1, c2, c3, c6, c7, c8, c9, c10⟩ := h.cells
  have f1 := free_blk hb 1
  have hsm := h.small
  have hwr : IntKind.i64.wrap ((E.at' l : Int) + 1) = (E.at' l : Int) + 1 := by simp [IntKind.wrap, IntKind.bits, IntKind.signed]; omega
  have HPS := Lib.hid ((h.pass hn1).2 _ rfl)
  have hts := (h.pass hn1).1
  have hsp : (specialP (nowP l.tail) || nowP l.tail == 45 || nowP l.tail == 47) = true := by rw [hs]; rfl
  rw [esc_one h92 hmany h0 hsp]
  have hx1 : nowP l.tail ≠ -1 := by omega
  have hnr : nowR l.tail = nowP l.tail := by unfold nowR; rw [if_neg hx1, if_neg (by omega)]
  have HN := Lib.hid (now_rp p E l.tail d v us N _ HPS.out.1)
  have HM := Lib.hid hmany
  clear h hmany h92 hsm hts
  go_enter Tryz.func117, Tryz.ntmps117
  go_wp2_with fail
  refine HN.out.mono ?_
  rintro e w3 ⟨rfl, h3, m3⟩
  rw [hnr]
  have H3 := Lib.hid h3; have M3 := Lib.hid (Mp.trans HPS.out.2 m3)
  obtain ⟨top', s', size', plain', bad', hb', e0, e1, e2, e3, e6, e7, e8, e9, e10⟩ := h3.cells
  have f3 := free_blk hb' 1
  have hwr2 : IntKind.i64.wrap ((E.at' l.tail : Int) + 1) = (E.at' l.tail : Int) + 1 := by have := h3.small; simp [IntKind.wrap, IntKind.bits, IntKind.signed]; omega
  have HP4 := Lib.hid ((h3.pass hx1).2 _ rfl)
  clear h3 m3 hb' hb e0 e2 e3 e6 e7 e8 e9 e10 c0 c1 c2 c3 c6 c7 c8 c9 c10 hwr f1
  have HSP := Lib.hid (rspecial_any (nowP l.tail) w3)
  have hh0 := h0
  generalize nowP l.tail = x at *
  rw [hs] at HSP
  go_wp2_with fail
  refine HSP.out.mono ?_
  rintro e w4 ⟨rfl, rfl⟩
  have hsz : (w4.setCell ⟨p, 1, none⟩ (.int .i64 ((E.at' l.tail : Int) + 1))).heap.size = w4.heap.size := by simp [World.setCell]
  have ho := own_fresh (w := w4.setCell ⟨p, 1, none⟩ (.int .i64 ((E.at' l.tail : Int) + 1))) (e := 181) (size := 2) (n := 1) (xs := spC [(x, x)]) rfl (by decide)
  rw [hsz] at ho
  have HO := Lib.hid ho
  clear ho hsz
  have HB := Lib.hid ((RowKit.Below.refl (w4.setCell ⟨p, 1, none⟩ (.int .i64 ((E.at' l.tail : Int) + 1))).heap.size _).alloc (Nat.le_refl _) (.cells #[.int .i32 x, .int .i32 x] 181))
  go_wp2
  go_ret
  exact ⟨_, _, rfl, HO.out.lower (by have := M3.out.size; have := HP4.out.2.size; omega), HP4.out.1.below HB.out, Mp.below (Mp.trans M3.out HP4.out.2) HB.out⟩
theorem escape_hyph (p : Nat) (E : Env) (l : List Pc) (d : Nat) (v : Value) (us : List Value) (N : List Nd) (w : World) (h : RP w p E l d v us N) (h92 : nowP l = 92) (hmany : manyP (nowP l.tail) = none) (h0 : 0 ≤ nowP l.tail) (hs : specialP (nowP l.tail) = false) (h45 : (nowP l.tail == 45) = true) :
    Calls Tryz.prog 117 #[.pointer (some ⟨p, 0, none⟩)] w (OutE p E d v us N w (escG l)) := by
  have hn1 : nowP l ≠ -1 := by rw [h92]; decide
  obtain ⟨top, s, size, plain, bad, hb, c0, c1, c2, c3, c6, c7, c8, c9, c10⟩ := h.cells
  have f1 := free_blk hb 1
  have hsm := h.small
  have hwr : IntKind.i64.wrap ((E.at' l : Int) + 1) = (E.at' l : Int) + 1 := by simp [IntKind.wrap, IntKind.bits, IntKind.signed]; omega
  have HPS := Lib.hid ((h.pass hn1).2 _ rfl)
  have hts := (h.pass hn1).1
  have hsp : (specialP (nowP l.tail) || nowP l.tail == 45 || nowP l.tail == 47) = true := by rw [hs, h45]; rfl
  rw [esc_one h92 hmany h0 hsp]
  have hx1 : nowP l.tail ≠ -1 := by omega
  have hnr : nowR l.tail = nowP l.tail := by unfold nowR; rw [if_neg hx1, if_neg (by omega)]
  have HN := Lib.hid (now_rp p E l.tail d v us N _ HPS.out.1)
  have HM := Lib.hid hmany
  clear h hmany h92 hsm hts
  go_enter Tryz.func117, Tryz.ntmps117
  go_wp2_with fail
  refine HN.out.mono ?_
  rintro e w3 ⟨rfl, h3, m3⟩
  rw [hnr]
  have H3 := Lib.hid h3; have M3 := Lib.hid (Mp.trans HPS.out.2 m3)
  obtain ⟨top', s', size', plain', bad', hb', e0, e1, e2, e3, e6, e7, e8, e9, e10⟩ := h3.cells
  have f3 := free_blk hb' 1
  have hwr2 : IntKind.i64.wrap ((E.at' l.tail : Int) + 1) = (E.at' l.tail : Int) + 1 := by have := h3.small; simp [IntKind.wrap, IntKind.bits, IntKind.signed]; omega
  have HP4 := Lib.hid ((h3.pass hx1).2 _ rfl)
  clear h3 m3 hb' hb e0 e2 e3 e6 e7 e8 e9 e10 c0 c1 c2 c3 c6 c7 c8 c9 c10 hwr f1
  have HSP := Lib.hid (rspecial_any (nowP l.tail) w3)
  have hh0 := h0
  generalize nowP l.tail = x at *
  rw [hs] at HSP
  go_wp2_with fail
  refine HSP.out.mono ?_
  rintro e w4 ⟨rfl, rfl⟩
  have hsz : (w4.setCell ⟨p, 1, none⟩ (.int .i64 ((E.at' l.tail : Int) + 1))).heap.size = w4.heap.size := by simp [World.setCell]
  have ho := own_fresh (w := w4.setCell ⟨p, 1, none⟩ (.int .i64 ((E.at' l.tail : Int) + 1))) (e := 181) (size := 2) (n := 1) (xs := spC [(x, x)]) rfl (by decide)
  rw [hsz] at ho
  have HO := Lib.hid ho
  clear ho hsz
  have HB := Lib.hid ((RowKit.Below.refl (w4.setCell ⟨p, 1, none⟩ (.int .i64 ((E.at' l.tail : Int) + 1))).heap.size _).alloc (Nat.le_refl _) (.cells #[.int .i32 x, .int .i32 x] 181))
  go_wp2
  go_ret
  exact ⟨_, _, rfl, HO.out.lower (by have := M3.out.size; have := HP4.out.2.size; omega), HP4.out.1.below HB.out, Mp.below (Mp.trans M3.out HP4.out.2) HB.out⟩
theorem escape_slash (p : Nat) (E : Env) (l : List Pc) (d : Nat) (v : Value) (us : List Value) (N : List Nd) (w : World) (h : RP w p E l d v us N) (h92 : nowP l = 92) (hmany : manyP (nowP l.tail) = none) (h0 : 0 ≤ nowP l.tail) (hs : specialP (nowP l.tail) = false) (h45 : (nowP l.tail == 45) = false) (h47 : (nowP l.tail == 47) = true) :
    Calls Tryz.prog 117 #[.pointer (some ⟨p, 0, none⟩)] w (OutE p E d v us N w (escG l)) := by
  have hn1 : nowP l ≠ -1 := by rw [h92]; decide
  obtain ⟨top, s, size, plain, bad, hb, c0, c1, c2, c3, c6, c7, c8, c9, c10⟩ := h.cells
  have f1 := free_blk hb 1
  have hsm := h.small
  have hwr : IntKind.i64.wrap ((E.at' l : Int) + 1) = (E.at' l : Int) + 1 := by simp [IntKind.wrap, IntKind.bits, IntKind.signed]; omega
  have HPS := Lib.hid ((h.pass hn1).2 _ rfl)
  have hts := (h.pass hn1).1
  have hsp : (specialP (nowP l.tail) || nowP l.tail == 45 || nowP l.tail == 47) = true := by rw [hs, h45, h47]; rfl
  rw [esc_one h92 hmany h0 hsp]
  have hx1 : nowP l.tail ≠ -1 := by omega
  have hnr : nowR l.tail = nowP l.tail := by unfold nowR; rw [if_neg hx1, if_neg (by omega)]
  have HN := Lib.hid (now_rp p E l.tail d v us N _ HPS.out.1)
  have HM := Lib.hid hmany
  clear h hmany h92 hsm hts
  go_enter Tryz.func117, Tryz.ntmps117
  go_wp2_with fail
  refine HN.out.mono ?_
  rintro e w3 ⟨rfl, h3, m3⟩
  rw [hnr]
  have H3 := Lib.hid h3; have M3 := Lib.hid (Mp.trans HPS.out.2 m3)
  obtain ⟨top', s', size', plain', bad', hb', e0, e1, e2, e3, e6, e7, e8, e9, e10⟩ := h3.cells
  have f3 := free_blk hb' 1
  have hwr2 : IntKind.i64.wrap ((E.at' l.tail : Int) + 1) = (E.at' l.tail : Int) + 1 := by have := h3.small; simp [IntKind.wrap, IntKind.bits, IntKind.signed]; omega
  have HP4 := Lib.hid ((h3.pass hx1).2 _ rfl)
  clear h3 m3 hb' hb e0 e2 e3 e6 e7 e8 e9 e10 c0 c1 c2 c3 c6 c7 c8 c9 c10 hwr f1
  have HSP := Lib.hid (rspecial_any (nowP l.tail) w3)
  have hh0 := h0
  generalize nowP l.tail = x at *
  rw [hs] at HSP
  go_wp2_with fail
  refine HSP.out.mono ?_
  rintro e w4 ⟨rfl, rfl⟩
  have hsz : (w4.setCell ⟨p, 1, none⟩ (.int .i64 ((E.at' l.tail : Int) + 1))).heap.size = w4.heap.size := by simp [World.setCell]
  have ho := own_fresh (w := w4.setCell ⟨p, 1, none⟩ (.int .i64 ((E.at' l.tail : Int) + 1))) (e := 181) (size := 2) (n := 1) (xs := spC [(x, x)]) rfl (by decide)
  rw [hsz] at ho
  have HO := Lib.hid ho
  clear ho hsz
  have HB := Lib.hid ((RowKit.Below.refl (w4.setCell ⟨p, 1, none⟩ (.int .i64 ((E.at' l.tail : Int) + 1))).heap.size _).alloc (Nat.le_refl _) (.cells #[.int .i32 x, .int .i32 x] 181))
  go_wp2
  go_ret
  exact ⟨_, _, rfl, HO.out.lower (by have := M3.out.size; have := HP4.out.2.size; omega), HP4.out.1.below HB.out, Mp.below (Mp.trans M3.out HP4.out.2) HB.out⟩
theorem escape_some (p : Nat) (E : Env) (l : List Pc) (d : Nat) (v : Value) (us : List Value) (N : List Nd) (w : World) (h : RP w p E l d v us N) (h92 : nowP l = 92) (g : Spans) (hmany : manyP (nowP l.tail) = some g) :
    Calls Tryz.prog 117 #[.pointer (some ⟨p, 0, none⟩)] w (OutE p E d v us N w (escG l)) := by
  have hn1 : nowP l ≠ -1 := by rw [h92]; decide
  obtain ⟨top, s, size, plain, bad, hb, c0, c1, c2, c3, c6, c7, c8, c9, c10⟩ := h.cells
  have f1 := free_blk hb 1
  have hsm := h.small
  have hwr : IntKind.i64.wrap ((E.at' l : Int) + 1) = (E.at' l : Int) + 1 := by simp [IntKind.wrap, IntKind.bits, IntKind.signed]; omega
  have HPS := Lib.hid ((h.pass hn1).2 _ rfl)
  have hts := (h.pass hn1).1
  rw [esc_many h92 hmany]
  have hxx : nowP l.tail = 100 ∨ nowP l.tail = 119 ∨ nowP l.tail = 115 := by
    rcases many_cases (nowP l.tail) with ⟨e, _⟩ | ⟨e, _⟩ | ⟨e, _⟩ | ⟨_, _, _, e⟩
    · exact .inl e
    · exact .inr (.inl e)
    · exact .inr (.inr e)
    · rw [hmany] at e; cases e
  have h0 : 0 ≤ nowP l.tail := by omega
  have hs := special_not hxx
  have h45 : (nowP l.tail == 45) = false := by rw [beq_eq_false_iff_ne]; omega
  have h47 : (nowP l.tail == 47) = false := by rw [beq_eq_false_iff_ne]; omega
  have hx1 : nowP l.tail ≠ -1 := by omega
  have hnr : nowR l.tail = nowP l.tail := by unfold nowR; rw [if_neg hx1, if_neg (by omega)]
  have HN := Lib.hid (now_rp p E l.tail d v us N _ HPS.out.1)
  have HG := Lib.hid (fun W => group_some (nowP l.tail) g W hmany)
  have HPASS := Lib.hid (fun W (k : RP W p E l.tail d v us N) => (k.pass hx1).2 _ rfl)
  have hgl : 0 < g.length := by
    unfold manyP at hmany
    split at hmany
    · injection hmany with e; subst e; decide
    · split at hmany
      · injection hmany with e; subst e; decide
      · split at hmany
        · injection hmany with e; subst e; decide
        · cases hmany
  have hg0 : ((g.length : Int) == 0) = false := by rw [beq_eq_false_iff_ne]; omega
  clear h hmany h92 hsm hts hxx
  go_enter Tryz.func117, Tryz.ntmps117
  go_wp2_with fail
  refine HN.out.mono ?_
  rintro e w3 ⟨rfl, h3, m3⟩
  rw [hnr]
  have H3 := Lib.hid h3; have M3 := Lib.hid (Mp.trans HPS.out.2 m3)
  clear h3 m3 hb c0 c1 c2 c3 c6 c7 c8 c9 c10 hwr f1
  have HSP := Lib.hid (rspecial_any (nowP l.tail) w3)
  generalize nowP l.tail = x at *
  rw [hs] at HSP
  go_wp2_with fail
  refine HSP.out.mono ?_
  rintro e w4 ⟨rfl, rfl⟩
  go_wp2_with fail
  refine (HG.out _).mono ?_
  rintro e w5 ⟨A5, k5, rfl, ho5, hb5⟩
  have h5 := H3.out.below hb5
  obtain ⟨top', s', size', plain', bad', hb', e0, e1, e2, e3, e6, e7, e8, e9, e10⟩ := h5.cells
  have f3 := free_blk hb' 1
  have hwr2 : IntKind.i64.wrap ((E.at' l.tail : Int) + 1) = (E.at' l.tail : Int) + 1 := by have := h5.small; simp [IntKind.wrap, IntKind.bits, IntKind.signed]; omega
  have HP6 := Lib.hid (HPASS.out _ h5)
  have M5 := Lib.hid (Mp.below M3.out hb5)
  have HO := Lib.hid (own_mv (S := fun k => k = p) (ho5.lower (show w.heap.size ≤ w4.heap.size from M3.out.size)) HP6.out.2 fun k hk e => by have := (ho5.lt k hk).1; have := H3.out.lt; omega)
  clear h5 hb' e0 e2 e3 e6 e7 e8 e9 e10 ho5 hb5
  go_wp2
  go_ret
  exact ⟨_, _, rfl, HO.out, HP6.out.1, Mp.trans M5.out HP6.out.2⟩
theorem escape_none (p : Nat) (E : Env) (l : List Pc) (d : Nat) (v : Value) (us : List Value) (N : List Nd) (w : World) (h : RP w p E l d v us N) (h92 : nowP l = 92) (hmany : manyP (nowP l.tail) = none) (h0 : 0 ≤ nowP l.tail) (hs : specialP (nowP l.tail) = false) (h45 : (nowP l.tail == 45) = false) (h47 : (nowP l.tail == 47) = false) :
    Calls Tryz.prog 117 #[.pointer (some ⟨p, 0, none⟩)] w (OutE p E d v us N w (escG l)) := by
  have hn1 : nowP l ≠ -1 := by rw [h92]; decide
  obtain ⟨top, s, size, plain, bad, hb, c0, c1, c2, c3, c6, c7, c8, c9, c10⟩ := h.cells
  have f1 := free_blk hb 1
  have hsm := h.small
  have hwr : IntKind.i64.wrap ((E.at' l : Int) + 1) = (E.at' l : Int) + 1 := by simp [IntKind.wrap, IntKind.bits, IntKind.signed]; omega
  have HPS := Lib.hid ((h.pass hn1).2 _ rfl)
  have hts := (h.pass hn1).1
  rw [esc_no h92 hmany (.inr (by rw [hs, h45, h47]; rfl))]
  have hx1 : nowP l.tail ≠ -1 := by omega
  have hnr : nowR l.tail = nowP l.tail := by unfold nowR; rw [if_neg hx1, if_neg (by omega)]
  have HN := Lib.hid (now_rp p E l.tail d v us N _ HPS.out.1)
  have HG := Lib.hid (fun W => group_none (nowP l.tail) W hmany)
  clear h hmany h92 hsm hts
  go_enter Tryz.func117, Tryz.ntmps117
  go_wp2_with fail
  refine HN.out.mono ?_
  rintro e w3 ⟨rfl, h3, m3⟩
  rw [hnr]
  have H3 := Lib.hid h3; have M3 := Lib.hid (Mp.trans HPS.out.2 m3)
  clear h3 m3 hb c0 c1 c2 c3 c6 c7 c8 c9 c10 hwr f1
  have HSP := Lib.hid (rspecial_any (nowP l.tail) w3)
  generalize nowP l.tail = x at *
  rw [hs] at HSP
  go_wp2_with fail
  refine HSP.out.mono ?_
  rintro e w4 ⟨rfl, rfl⟩
  go_wp2_with fail
  refine (HG.out _).mono ?_
  rintro e w5 ⟨rfl, rfl⟩
  have HF := Lib.hid (fail_is p 8 E l.tail d N.length v us N w5 H3.out (by decide) (Nat.le_refl _))
  go_wp2_with fail
  refine HF.out.mono ?_
  rintro e w6 ⟨rfl, h6, m6⟩
  have M6 := Lib.hid (Mp.trans M3.out m6); have H6 := Lib.hid h6
  clear h6 m6
  go_wp2
  go_ret
  exact ⟨rfl, H6.out, M6.out⟩
theorem escape_low (p : Nat) (E : Env) (l : List Pc) (d : Nat) (v : Value) (us : List Value) (N : List Nd) (w : World) (h : RP w p E l d v us N) (h92 : nowP l = 92) (h0 : nowP l.tail < 0) :
    Calls Tryz.prog 117 #[.pointer (some ⟨p, 0, none⟩)] w (OutE p E d v us N w (escG l)) := by
  have hn1 : nowP l ≠ -1 := by rw [h92]; decide
  obtain ⟨top, s, size, plain, bad, hb, c0, c1, c2, c3, c6, c7, c8, c9, c10⟩ := h.cells
  have f1 := free_blk hb 1
  have hsm := h.small
  have hwr : IntKind.i64.wrap ((E.at' l : Int) + 1) = (E.at' l : Int) + 1 := by simp [IntKind.wrap, IntKind.bits, IntKind.signed]; omega
  have HPS := Lib.hid ((h.pass hn1).2 _ rfl)
  have hts := (h.pass hn1).1
  have hmany : manyP (nowP l.tail) = none := by unfold manyP; rw [if_neg (by omega), if_neg (by omega), if_neg (by omega)]
  rw [esc_no h92 hmany (.inl h0)]
  have hnr : nowR l.tail < 0 := by unfold nowR; split; decide; split; decide; exact h0
  have hm2 : manyP (nowR l.tail) = none := by unfold manyP; rw [if_neg (by omega), if_neg (by omega), if_neg (by omega)]
  have HN := Lib.hid (now_rp p E l.tail d v us N _ HPS.out.1)
  have HG := Lib.hid (fun W => group_none (nowR l.tail) W hm2)
  have hd0 : decide ((0 : Int) ≤ nowR l.tail) = false := by rw [decide_eq_false]; omega
  have hd1 : ¬ (0 : Int) ≤ nowR l.tail := by omega
  clear h hmany h92 hsm hts hm2 h0
  go_enter Tryz.func117, Tryz.ntmps117
  go_wp2_with fail
  refine HN.out.mono ?_
  rintro e w3 ⟨rfl, h3, m3⟩
  have H3 := Lib.hid h3; have M3 := Lib.hid (Mp.trans HPS.out.2 m3)
  clear h3 m3 hb c0 c1 c2 c3 c6 c7 c8 c9 c10 hwr f1
  generalize nowR l.tail = x at *
  go_wp2_with fail
  refine (HG.out _).mono ?_
  rintro e w5 ⟨rfl, rfl⟩
  have HF := Lib.hid (fail_is p 8 E l.tail d N.length v us N w5 H3.out (by decide) (Nat.le_refl _))
  go_wp2_with fail
  refine HF.out.mono ?_
  rintro e w6 ⟨rfl, h6, m6⟩
  have M6 := Lib.hid (Mp.trans M3.out m6); have H6 := Lib.hid h6
  clear h6 m6
  go_wp2
  go_ret
  exact ⟨rfl, H6.out, M6.out⟩
theorem escape_is (p : Nat) (E : Env) (l : List Pc) (d : Nat) (v : Value) (us : List Value) (N : List Nd) (w : World) (h : RP w p E l d v us N) (h92 : nowP l = 92) :
    Calls Tryz.prog 117 #[.pointer (some ⟨p, 0, none⟩)] w (OutE p E d v us N w (escG l)) := by
  by_cases h0 : nowP l.tail < 0
  · exact escape_low p E l d v us N w h h92 h0
  · cases hm : manyP (nowP l.tail) with
    | some g => exact escape_some p E l d v us N w h h92 g hm
    | none =>
      cases hs : specialP (nowP l.tail) with
      | true => exact escape_sign p E l d v us N w h h92 hm (by omega) hs
      | false =>
        cases h45 : (nowP l.tail == 45) with
        | true => exact escape_hyph p E l d v us N w h h92 hm (by omega) hs h45
        | false =>
          cases h47 : (nowP l.tail == 47) with
          | true => exact escape_slash p E l d v us N w h h92 hm (by omega) hs h45 h47
          | false => exact escape_none p E l d v us N w h h92 hm (by omega) hs h45 h47
end
end
section
set_option linter.unusedVariables false
set_option linter.unusedSimpArgs false
open Go.RowKit

def sngG (l : List Pc) : Rs (Int × Spans) :=
  if nowP l = 92 then
    match escG l with
    | .error f => .error f
    | .ok (g, l') => if wideS g then .ok ((0, g), l') else .ok (((g.headD (0, 0)).1, []), l')
  else if decide (0 ≤ nowP l) && !outsideP (nowP l) then .ok ((nowP l, []), l.tail) else .error (atP l, 8)
def OutRs (p : Nat) (E : Env) (d : Nat) (v : Value) (us : List Value) (N : List Nd) (w : World) (r : Rs (Int × Spans)) (e : Ending) (w' : World) : Prop :=
  match r with
  | .ok ((x, g), l') => ∃ A c, e = .returned (.tuple #[.int .i32 x, .slice A g.length c]) ∧ w'.ownsRow w.heap.size 181 2 (.slice A g.length c) g.length (spC g) ∧ RP w' p E l' d v us N ∧ Mv (fun k => k = p) w w'
  | .error f => e = .returned (.tuple #[.int .i32 0, .slice none 0 0]) ∧ RE w' p E f v N.length ∧ Mv (fun k => k = p) w w'
def OutRl (p : Nat) (E : Env) (d : Nat) (v : Value) (us : List Value) (N : List Nd) (w : World) (r : Rs Int) (e : Ending) (w' : World) : Prop :=
  match r with
  | .ok (x, l') => e = .returned (.int .i32 x) ∧ RP w' p E l' d v us N ∧ Mv (fun k => k = p) w w'
  | .error f => ∃ x : Int, e = .returned (.int .i32 x) ∧ RE w' p E f v N.length ∧ Mv (fun k => k = p) w w'
theorem own_nil (w : World) (B : Nat) : w.ownsRow B 181 2 (.slice none 0 0) ([] : Spans).length (spC []) := ⟨rfl, .inl ⟨rfl, rfl⟩⟩
/-- What an escape is, each way. -/
theorem esc_cases {l : List Pc} (h92 : nowP l = 92) :
    (∃ g, escG l = .ok (g, l.tail.tail) ∧ wideS g = true ∧ g ≠ [] ∧ nowP l.tail ≠ -1 ∧ (specialP (nowP l.tail) || nowP l.tail == 45 || nowP l.tail == 47) = false) ∨
    (∃ x, x = nowP l.tail ∧ escG l = .ok ([(x, x)], l.tail.tail) ∧ wideS [(x, x)] = false ∧ 0 ≤ x ∧ (specialP (nowP l.tail) || nowP l.tail == 45 || nowP l.tail == 47) = true) ∨
    (escG l = .error (atP l.tail, 8) ∧ (nowP l.tail < 0 ∨ (specialP (nowP l.tail) || nowP l.tail == 45 || nowP l.tail == 47) = false)) := by
  cases hm : manyP (nowP l.tail) with
  | some g =>
    refine .inl ⟨g, esc_many h92 hm, ?_⟩
    rcases many_cases (nowP l.tail) with ⟨e, e2⟩ | ⟨e, e2⟩ | ⟨e, e2⟩ | ⟨_, _, _, e2⟩
    · rw [hm] at e2; injection e2 with e2; subst e2; rw [e]; exact ⟨by decide, by decide, by decide, by decide⟩
    · rw [hm] at e2; injection e2 with e2; subst e2; rw [e]; exact ⟨by decide, by decide, by decide, by decide⟩
    · rw [hm] at e2; injection e2 with e2; subst e2; rw [e]; exact ⟨by decide, by decide, by decide, by decide⟩
    · rw [hm] at e2; cases e2
  | none =>
    by_cases h0 : 0 ≤ nowP l.tail
    · cases hs : (specialP (nowP l.tail) || nowP l.tail == 45 || nowP l.tail == 47) with
      | true => exact .inr (.inl ⟨_, rfl, esc_one h92 hm h0 hs, by simp [wideS], h0, rfl⟩)
      | false => exact .inr (.inr ⟨esc_no h92 hm (.inr hs), .inr rfl⟩)
    · exact .inr (.inr ⟨esc_no h92 hm (.inl (by omega)), .inl (by omega)⟩)
/-- Which last rune stands behind a hyphen, by the single rune there. -/
theorem last_ok {l : List Pc} {lo : Int} (h0 : 0 ≤ lo) (hb : ¬ (nowP l = 92 ∧ 125 < lo)) {c : Int} {g : Spans} {l' : List Pc} (e : sngG l = .ok ((c, g), l')) :
    nowP l ≠ -1 ∧ ((g ≠ [] ∨ c < lo) → singleP lo l = .error ((if nowP l = 92 then atP l.tail else atP l), 8)) ∧ (g = [] → lo ≤ c → singleP lo l = .ok (c, l')) := by
  unfold sngG at e
  unfold singleP
  by_cases h92 : nowP l = 92
  · rw [if_pos h92] at e ⊢
    refine ⟨by rw [h92]; decide, ?_⟩
    rw [if_pos h92]
    unfold rescP
    rw [if_pos (by omega)]
    rcases esc_cases h92 with ⟨g', e1, e2, e3, e4, e5⟩ | ⟨x, rfl, e1, e2, e3, e4⟩ | ⟨e1, _⟩
    · rw [e1] at e
      simp only at e
      rw [if_pos e2] at e
      injection e with e; injection e with e6 e7; injection e6 with e6 e8
      subst e6; subst e7; subst e8
      rw [e5, Bool.and_false]
      exact ⟨fun _ => rfl, fun h => absurd h e3⟩
    · rw [e1] at e
      simp only at e
      rw [if_neg (by rw [e2]; decide)] at e
      injection e with e; injection e with e6 e7; injection e6 with e6 e8
      subst e6; subst e7; subst e8
      rw [e4, Bool.and_true]
      simp only [List.headD_cons]
      refine ⟨fun h => ?_, fun _ h => ?_⟩
      · rw [if_neg (by rcases h with h | h; exact absurd rfl h; simp; omega)]; rfl
      · rw [if_pos (by simp; exact h)]
    · rw [e1] at e; cases e
  · rw [if_neg h92] at e ⊢
    split at e
    · rename_i hc
      injection e with e; injection e with e6 e7; injection e6 with e6 e8
      subst e6; subst e7; subst e8
      simp only [Bool.and_eq_true, decide_eq_true_eq] at hc
      refine ⟨by omega, fun h => ?_, fun _ h => ?_⟩
      · rw [if_neg h92, if_neg (by rcases h with h | h; exact absurd rfl h; simp; omega)]; rfl
      · rw [if_pos (by rw [decide_eq_true h, hc.2]; rfl)]
    · cases e
theorem last_no {l : List Pc} {lo : Int} (h0 : 0 ≤ lo) (hb : ¬ (nowP l = 92 ∧ 125 < lo)) {f : Flt} (e : sngG l = .error f) : singleP lo l = .error f := by
  unfold sngG at e
  unfold singleP
  by_cases h92 : nowP l = 92
  · rw [if_pos h92] at e ⊢
    unfold rescP
    rw [if_pos (by omega)]
    rcases esc_cases h92 with ⟨g', e1, e2, e3, e4, e5⟩ | ⟨x, rfl, e1, e2, e3, e4⟩ | ⟨e1, e2⟩
    · rw [e1] at e; simp only at e; rw [if_pos e2] at e; cases e
    · rw [e1] at e; simp only at e; rw [if_neg (by rw [e2]; decide)] at e; cases e
    · rw [e1] at e
      simp only at e
      injection e with e; subst e
      rw [if_neg]; rfl
      rcases e2 with e2 | e2
      · rw [decide_eq_false (by omega)]; simp
      · rw [e2, Bool.and_false]; simp
  · rw [if_neg h92] at e ⊢
    split at e
    · cases e
    · rename_i hc
      injection e with e; subst e
      rw [if_neg]; rfl
      intro h
      simp only [Bool.and_eq_true, decide_eq_true_eq] at h hc
      exact hc ⟨by omega, h.2⟩
section
set_option maxHeartbeats 1600000
set_option maxRecDepth 100000
theorem single_esc (p : Nat) (E : Env) (l : List Pc) (d : Nat) (v : Value) (us : List Value) (N : List Nd) (w : World) (h : RP w p E l d v us N) (h92 : nowP l = 92) : Calls Tryz.prog 122 #[.pointer (some ⟨p, 0, none⟩)] w (OutRs p E d v us N w (sngG l)) := by
  have hnr : nowR l = 92 := by unfold nowR; rw [h92]; rfl
  have HN := Lib.hid (now_rp p E l d v us N w h)
  have HE := Lib.hid (fun W (k : RP W p E l d v us N) => escape_is p E l d v us N W k h92)
  unfold sngG
  rw [if_pos h92]
  have hec := esc_cases h92
  rw [hnr] at HN
  generalize escG l = R at HE hec ⊢
  obtain ⟨RES, hres⟩ : ∃ RES, RES = (match R with | .error f => Except.error f | .ok (g, l') => if wideS g then .ok ((0, g), l') else .ok (((g.headD (0, 0)).1, []), l') : Rs (Int × Spans)) := ⟨_, rfl⟩
  rw [← hres]
  have HEC := Lib.hid hec; have HRES := Lib.hid hres
  clear h h92 hnr hec hres
  go_enter Tryz.func122, Tryz.ntmps122
  go_wp2_with fail
  refine HN.out.mono ?_
  rintro e w1 ⟨rfl, h1, m1⟩
  have M1 := Lib.hid m1; have HE1 := Lib.hid (HE.out _ h1)
  clear h1 m1 HE
  go_wp2_with fail
  refine HE1.out.mono ?_
  intro e w2 ho
  cases R with
  | error f =>
    obtain ⟨rfl, h2, m2⟩ := ho
    obtain ⟨i, top, s, size, plain, d', hb, c0, c1, c3, c6, c7, c8, c9, c10⟩ := h2.cells
    have he := h2.err
    have f1 : ((f.2 : Int) != 0) = true := by rw [bne_iff_ne]; omega
    have f2 : ((f.2 : Int) == 0) = false := by rw [beq_eq_false_iff_ne]; omega
    have H2 := Lib.hid h2; have M2 := Lib.hid (Mp.trans M1.out m2)
    clear h2 m2 hb he c0 c1 c3 c6 c7 c8 c10 HEC
    generalize f.2 = x at c9 f1 f2
    go_wp2
    go_ret2
    rw [HRES.out]
    exact ⟨rfl, H2.out, M2.out⟩
  | ok r =>
    obtain ⟨g, l'⟩ := r
    obtain ⟨A, c, rfl, ho2, h2, m2⟩ := ho
    obtain ⟨top, s, size, plain, bad, hb, c0, c1, c2, c3, c6, c7, c8, c9, c10⟩ := h2.cells
    obtain ⟨A', c', e', hrd, -, -⟩ := own_rdg ho2
    injection e' with e1 _ e3; subst e1; subst e3
    have H2 := Lib.hid h2; have M2 := Lib.hid (Mp.trans M1.out m2); have HO := Lib.hid (ho2.lower M1.out.size)
    have HW := Lib.hid (wide_any A c g w2 hrd)
    have HRD := Lib.hid hrd
    clear h2 m2 hb c0 c1 c2 c3 c6 c7 c8 c10 ho2 hrd
    cases hw : wideS g with
    | true =>
      rw [hw] at HW
      have hr := HRES.out
      simp only [hw, if_true] at hr
      have HR := Lib.hid hr
      clear hw HEC HRES hr
      go_wp2_with fail
      refine HW.out.mono ?_
      rintro e w3 ⟨rfl, q, hq⟩
      have hb3 : Below w2.heap.size w2 w3 := by rw [hq]; exact drewN_below w2 q
      have H3 := Lib.hid (H2.out.below hb3); have M3 := Lib.hid (Mp.below M2.out hb3); have HO3 := Lib.hid (own_mv (S := fun _ => False) HO.out (Mv.of_below hb3 _) fun _ _ f => f)
      clear hb3 hq
      go_wp2
      go_ret2
      rw [HR.out]
      exact ⟨A, c, rfl, HO3.out, H3.out, M3.out⟩
    | false =>
      rw [hw] at HW
      have hr := HRES.out
      simp only [hw, Bool.false_eq_true, if_false] at hr
      have HR := Lib.hid hr
      clear hr HRES
      obtain ⟨x, hx⟩ : ∃ x, g = [(x, x)] := by
        rcases HEC.out with ⟨g', e1, e2, _⟩ | ⟨x, _, e1, _⟩ | ⟨e1, _⟩
        · injection e1 with e1; injection e1 with e1 _; subst e1; rw [hw] at e2; cases e2
        · injection e1 with e1; injection e1 with e1 _; exact ⟨x, e1⟩
        · cases e1
      subst hx
      clear hw HEC
      go_wp2_with fail
      refine HW.out.mono ?_
      rintro e w3 ⟨rfl, q, hq⟩
      have hb3 : Below w2.heap.size w2 w3 := by rw [hq]; exact drewN_below w2 q
      have H3 := Lib.hid (H2.out.below hb3); have M3 := Lib.hid (Mp.below M2.out hb3)
      obtain ⟨b1, o1, rfl, k0⟩ := (HRD.out.below hb3) 0 (.int .i32 x) rfl
      replace k0 : w3.cell? ⟨b1, o1, none⟩ = some (.int .i32 x) := k0
      clear hb3 hq
      go_wp2
      go_ret2
      rw [HR.out]
      exact ⟨none, 0, rfl, own_nil _ _, H3.out, M3.out⟩
theorem single_no (p : Nat) (E : Env) (l : List Pc) (d : Nat) (v : Value) (us : List Value) (N : List Nd) (w : World) (h : RP w p E l d v us N) (h92 : nowP l ≠ 92) (hc : ¬ (0 ≤ nowP l ∧ outsideP (nowP l) = false)) : Calls Tryz.prog 122 #[.pointer (some ⟨p, 0, none⟩)] w (OutRs p E d v us N w (sngG l)) := by
  have HN := Lib.hid (now_rp p E l d v us N w h)
  have hs : sngG l = .error (atP l, 8) := by
    unfold sngG
    rw [if_neg h92, if_neg]
    intro e
    simp only [Bool.and_eq_true, decide_eq_true_eq, Bool.not_eq_true'] at e
    exact hc e
  rw [hs]
  have HF := Lib.hid (fun W (k : RP W p E l d v us N) => fail_is p 8 E l d N.length v us N W k (by decide) (Nat.le_refl _))
  have hx : nowR l < 0 ∨ nowR l = 91 ∨ nowR l = 93 ∨ nowR l = 94 ∨ nowR l = 45 := by
    unfold nowR
    by_cases h1 : nowP l = -1
    · rw [if_pos h1]; exact .inl (by decide)
    · rw [if_neg h1]
      by_cases h2 : nowP l = -2
      · rw [if_pos h2]; exact .inl (by decide)
      · rw [if_neg h2]
        by_cases h3 : 0 ≤ nowP l
        · have h4 : outsideP (nowP l) = true := by
            cases h5 : outsideP (nowP l) with
            | true => rfl
            | false => exact absurd ⟨h3, h5⟩ hc
          unfold outsideP at h4
          simp only [Bool.or_eq_true, beq_iff_eq] at h4
          omega
        · exact .inl (by omega)
  have q92 : (nowR l == 92) = false := by rw [beq_eq_false_iff_ne]; omega
  clear hs hc h92 h
  generalize nowR l = x at *
  rcases hx with hx | rfl | rfl | rfl | rfl
  · have d1 : decide (x < (0 : Int)) = true := by simp; omega
    clear q92
    have q92 : (x == 92) = false := by rw [beq_eq_false_iff_ne]; omega
    go_enter Tryz.func122, Tryz.ntmps122
    go_wp2_with fail
    refine HN.out.mono ?_
    rintro e w1 ⟨rfl, h1, m1⟩
    have M1 := Lib.hid m1; have HF1 := Lib.hid (HF.out _ h1)
    clear h1 m1
    go_wp2_with fail
    refine HF1.out.mono ?_
    rintro e w2 ⟨rfl, h2, m2⟩
    have H2 := Lib.hid h2; have M2 := Lib.hid (Mp.trans M1.out m2)
    clear h2 m2
    go_wp2
    go_ret2
    exact ⟨rfl, H2.out, M2.out⟩
  · go_enter Tryz.func122, Tryz.ntmps122
    go_wp2_with fail
    refine HN.out.mono ?_
    rintro e w1 ⟨rfl, h1, m1⟩
    have M1 := Lib.hid m1; have HF1 := Lib.hid (HF.out _ h1)
    clear h1 m1
    go_wp2_with fail
    refine HF1.out.mono ?_
    rintro e w2 ⟨rfl, h2, m2⟩
    have H2 := Lib.hid h2; have M2 := Lib.hid (Mp.trans M1.out m2)
    clear h2 m2
    go_wp2
    go_ret2
    exact ⟨rfl, H2.out, M2.out⟩
  · go_enter Tryz.func122, Tryz.ntmps122
    go_wp2_with fail
    refine HN.out.mono ?_
    rintro e w1 ⟨rfl, h1, m1⟩
    have M1 := Lib.hid m1; have HF1 := Lib.hid (HF.out _ h1)
    clear h1 m1
    go_wp2_with fail
    refine HF1.out.mono ?_
    rintro e w2 ⟨rfl, h2, m2⟩
    have H2 := Lib.hid h2; have M2 := Lib.hid (Mp.trans M1.out m2)
    clear h2 m2
    go_wp2
    go_ret2
    exact ⟨rfl, H2.out, M2.out⟩
  · go_enter Tryz.func122, Tryz.ntmps122
    go_wp2_with fail
    refine HN.out.mono ?_
    rintro e w1 ⟨rfl, h1, m1⟩
    have M1 := Lib.hid m1; have HF1 := Lib.hid (HF.out _ h1)
    clear h1 m1
    go_wp2_with fail
    refine HF1.out.mono ?_
    rintro e w2 ⟨rfl, h2, m2⟩
    have H2 := Lib.hid h2; have M2 := Lib.hid (Mp.trans M1.out m2)
    clear h2 m2
    go_wp2
    go_ret2
    exact ⟨rfl, H2.out, M2.out⟩
  · go_enter Tryz.func122, Tryz.ntmps122
    go_wp2_with fail
    refine HN.out.mono ?_
    rintro e w1 ⟨rfl, h1, m1⟩
    have M1 := Lib.hid m1; have HF1 := Lib.hid (HF.out _ h1)
    clear h1 m1
    go_wp2_with fail
    refine HF1.out.mono ?_
    rintro e w2 ⟨rfl, h2, m2⟩
    have H2 := Lib.hid h2; have M2 := Lib.hid (Mp.trans M1.out m2)
    clear h2 m2
    go_wp2
    go_ret2
    exact ⟨rfl, H2.out, M2.out⟩
theorem single_yes (p : Nat) (E : Env) (l : List Pc) (d : Nat) (v : Value) (us : List Value) (N : List Nd) (w : World) (h : RP w p E l d v us N) (h92 : nowP l ≠ 92) (hc0 : 0 ≤ nowP l) (hc : outsideP (nowP l) = false) : Calls Tryz.prog 122 #[.pointer (some ⟨p, 0, none⟩)] w (OutRs p E d v us N w (sngG l)) := by
  have HN := Lib.hid (now_rp p E l d v us N w h)
  have hs : sngG l = .ok ((nowP l, []), l.tail) := by
    unfold sngG
    rw [if_neg h92, if_pos]
    rw [hc, decide_eq_true hc0]; rfl
  rw [hs]
  have hn1 : nowP l ≠ -1 := by omega
  have hnr : nowR l = nowP l := by unfold nowR; rw [if_neg hn1, if_neg (by omega)]
  have HPS := Lib.hid (fun W (k : RP W p E l d v us N) => (k.pass hn1).2 _ rfl)
  rw [hnr] at HN
  have q92 : (nowP l == 92) = false := by rw [beq_eq_false_iff_ne]; exact h92
  have d1 : decide (nowP l < (0 : Int)) = false := by simp; omega
  have d2 : ¬ nowP l < (0 : Int) := by omega
  unfold outsideP at hc
  simp only [Bool.or_eq_false_iff] at hc
  obtain ⟨⟨⟨a1, a2⟩, a3⟩, a4⟩ := hc
  clear hs h92 h hn1 hnr hc0
  generalize nowP l = x at *
  go_enter Tryz.func122, Tryz.ntmps122
  go_wp2_with fail
  refine HN.out.mono ?_
  rintro e w1 ⟨rfl, h1, m1⟩
  obtain ⟨top, s, size, plain, bad, hb, c0, c1, c2, c3, c6, c7, c8, c9, c10⟩ := h1.cells
  have f1 := free_blk hb 1
  have hwr : IntKind.i64.wrap ((E.at' l : Int) + 1) = (E.at' l : Int) + 1 := by have := h1.small; simp [IntKind.wrap, IntKind.bits, IntKind.signed]; omega
  have HP2 := Lib.hid (HPS.out _ h1)
  have M1 := Lib.hid m1
  clear h1 m1 hb c0 c2 c3 c6 c7 c8 c9 c10
  go_wp2
  go_ret2
  exact ⟨none, 0, rfl, own_nil _ _, HP2.out.1, Mp.trans M1.out HP2.out.2⟩
theorem single_is (p : Nat) (E : Env) (l : List Pc) (d : Nat) (v : Value) (us : List Value) (N : List Nd) (w : World) (h : RP w p E l d v us N) : Calls Tryz.prog 122 #[.pointer (some ⟨p, 0, none⟩)] w (OutRs p E d v us N w (sngG l)) := by
  by_cases h92 : nowP l = 92
  · exact single_esc p E l d v us N w h h92
  · by_cases hc : 0 ≤ nowP l ∧ outsideP (nowP l) = false
    · exact single_yes p E l d v us N w h h92 hc.1 hc.2
    · exact single_no p E l d v us N w h h92 hc
end
end
section
set_option linter.unusedVariables false
set_option linter.unusedSimpArgs false
open Go.RowKit

/-- The parser stands again where it stood. -/
theorem RP.back {w : World} {p : Nat} {E : Env} {l l' : List Pc} {d : Nat} {v : Value} {us : List Value} {N : List Nd} (h : RP w p E l' d v us N) (hs : l <:+ E.pl) (hn : l ≠ []) :
    ∀ W', W' = w.setCell ⟨p, 1, none⟩ (.int .i64 (E.at' l : Nat)) → RP W' p E l d v us N ∧ Mv (fun k => k = p) w W' := by
  intro W' e
  have m : Mv (fun k => k = p) w W' := by rw [e]; exact (Mv.refl (fun k => k = p) w).setCell (p := ⟨p, 1, none⟩) (fun _ => rfl) _
  obtain ⟨top, s, size, plain, bad, hb⟩ := h.box
  refine ⟨h.turn m ⟨top, s, size, plain, bad, ?_⟩ hs hn, m⟩
  have k1 := set_blk hb 1 (.int .i64 (E.at' l : Nat))
  rw [prC_set1] at k1
  rw [e]; exact k1
/-- The cell of the next rune. -/
theorem RP.next {w : World} {p : Nat} {E : Env} {l : List Pc} {d : Nat} {v : Value} {us : List Value} {N : List Nd} (h : RP w p E l d v us N) (hn : nowP l ≠ -1) :
    ∃ b off, E.A = some ⟨b, off, none⟩ ∧ w.cell? ⟨b, off + E.at' l * 2, none⟩ = some (.int .i32 (plainC (nowP l))) ∧ E.at' l < E.ch.length := by
  obtain ⟨hl, hch⟩ := h.ch_at hn
  obtain ⟨b, off, hA, ca⟩ := h.rd _ _ (chC_at E.ch (E.at' l) hl).1
  rw [hch] at ca
  exact ⟨b, off, hA, ca, hl⟩
section
set_option maxHeartbeats 1600000
set_option maxRecDepth 100000
theorem last_over (p : Nat) (E : Env) (l : List Pc) (d : Nat) (v : Value) (us : List Value) (N : List Nd) (w : World) (h : RP w p E l d v us N) (lo : Int) (h92 : nowP l = 92) (hlo : 125 < lo) : Calls Tryz.prog 123 #[.pointer (some ⟨p, 0, none⟩), .int .i32 lo] w (OutRl p E d v us N w (singleP lo l)) := by
  have hr : singleP lo l = .error (atP l, 8) := by unfold singleP rescP; rw [if_pos h92, if_neg (by omega)]; rfl
  rw [hr]
  have hnr : nowR l = 92 := by unfold nowR; rw [h92]; rfl
  have HN := Lib.hid (now_rp p E l d v us N w h)
  rw [hnr] at HN
  obtain ⟨top, s, size, plain, bad, hb, c0, c1, c2, c3, c6, c7, c8, c9, c10⟩ := h.cells
  have d1 : decide ((125 : Int) < lo) = true := by simp; exact hlo
  have HF := Lib.hid (fun W (k : RP W p E l d v us N) => fail_is p 8 E l d N.length v us N W k (by decide) (Nat.le_refl _))
  clear hr hnr h h92 hb c0 c2 c3 c6 c7 c8 c9 c10
  go_enter Tryz.func123, Tryz.ntmps123
  go_wp2_with fail
  refine HN.out.mono ?_
  rintro e w1 ⟨rfl, h1, m1⟩
  have M1 := Lib.hid m1; have HF1 := Lib.hid (HF.out _ h1)
  clear h1 m1
  go_wp2_with fail
  refine HF1.out.mono ?_
  rintro e w2 ⟨rfl, h2, m2⟩
  have H2 := Lib.hid h2; have M2 := Lib.hid (Mp.trans M1.out m2)
  clear h2 m2
  go_wp2
  go_ret
  exact ⟨_, rfl, H2.out, M2.out⟩
theorem last_esc (p : Nat) (E : Env) (l : List Pc) (d : Nat) (v : Value) (us : List Value) (N : List Nd) (w : World) (h : RP w p E l d v us N) (lo : Int) (h0 : 0 ≤ lo) (h92 : nowP l = 92) (hlo : lo ≤ 125) : Calls Tryz.prog 123 #[.pointer (some ⟨p, 0, none⟩), .int .i32 lo] w (OutRl p E d v us N w (singleP lo l)) := by
  have hnb : ¬ (nowP l = 92 ∧ 125 < lo) := by omega
  have HN := Lib.hid (now_rp p E l d v us N w h)
  have hnr : nowR l = 92 := by unfold nowR; rw [h92]; rfl
  rw [hnr] at HN
  have d1 : decide ((125 : Int) < lo) = false := by simp; exact hlo
  have d2 : ¬ (125 : Int) < lo := by omega
  obtain ⟨top, s, size, plain, bad, hb, c0, c1, c2, c3, c6, c7, c8, c9, c10⟩ := h.cells
  have HS := Lib.hid (fun W (k : RP W p E l d v us N) => single_is p E l d v us N W k)
  have hok := fun c g l' e => last_ok (l := l) h0 hnb (c := c) (g := g) (l' := l') e
  have hno := fun f e => last_no (l := l) h0 hnb (f := f) e
  obtain ⟨RES, hres⟩ : ∃ RES, RES = singleP lo l := ⟨_, rfl⟩
  rw [← hres] at hok hno ⊢
  have HBK := Lib.hid (fun W (k : RP W p E l d v us N) => k)
  have HSUF := Lib.hid h.suf; have HNE := Lib.hid h.ne
  generalize sngG l = R at HS hok hno
  have HOK := Lib.hid hok; have HNO := Lib.hid hno; have H92 := Lib.hid h92
  clear hok hno hres h hb c0 c2 c3 c6 c7 c8 c9 c10 hnb h92 h0
  go_enter Tryz.func123, Tryz.ntmps123
  go_wp2_with fail
  refine HN.out.mono ?_
  rintro e w1 ⟨rfl, h1, m1⟩
  have M1 := Lib.hid m1; have HS1 := Lib.hid (HS.out _ h1)
  clear h1 m1 HS
  go_wp2_with fail
  refine HS1.out.mono ?_
  intro e w2 ho
  cases R with
  | error f =>
    obtain ⟨rfl, h2, m2⟩ := ho
    obtain ⟨i, top', s', size', plain', d', hb, e0, e1, e3, e6, e7, e8, e9, e10⟩ := h2.cells
    have he := h2.err
    have f1 : ((f.2 : Int) != 0) = true := by rw [bne_iff_ne]; omega
    have f2 : ((f.2 : Int) == 0) = false := by rw [beq_eq_false_iff_ne]; omega
    have H2 := Lib.hid h2; have M2 := Lib.hid (Mp.trans M1.out m2)
    have HR := Lib.hid (HNO.out f rfl)
    clear h2 m2 hb he e0 e1 e3 e6 e7 e8 e10 HOK HNO
    generalize f.2 = y at e9 f1 f2
    go_wp2
    go_ret
    rw [HR.out]
    exact ⟨_, rfl, H2.out, M2.out⟩
  | ok r =>
    obtain ⟨⟨c, g⟩, l'⟩ := r
    obtain ⟨A, k, rfl, -, h2, m2⟩ := ho
    obtain ⟨q1, q2, q3⟩ := HOK.out c g l' rfl
    have HQ1 := Lib.hid q1; have HQ2 := Lib.hid q2; have HQ3 := Lib.hid q3
    obtain ⟨top', s', size', plain', bad', hb, e0, e1, e2, e3, e6, e7, e8, e9, e10⟩ := h2.cells
    have f1 := free_blk hb 1
    have M2 := Lib.hid (Mp.trans M1.out m2)
    have HB := Lib.hid (h2.back HSUF.out HNE.out _ rfl)
    have H2 := Lib.hid h2
    clear h2 m2 hb e0 e2 e3 e6 e7 e8 e10 q1 q2 q3 HOK HNO
    by_cases hbad : g ≠ [] ∨ c < lo
    · have HR := Lib.hid (HQ2.out hbad)
      obtain ⟨b, off, hA, hc, hli⟩ := HB.out.1.next HQ1.out
      obtain ⟨top2, s2, size2, plain2, bad2, hb2, k0, k1, k2, k3, k6, k7, k8, k9, k10⟩ := HB.out.1.cells
      rw [hA] at k0
      have i1 : (E.at' l : Int) < (E.ch.length : Int) := by omega
      have i2 : (0 : Int) ≤ (E.at' l : Int) := by omega
      have hpc : plainC (nowP l) = 92 := by rw [H92.out]; rfl
      rw [hpc] at hc
      have hwr : IntKind.i64.wrap ((E.at' l : Int) + 1) = (E.at' l : Int) + 1 := by have := HB.out.1.small; simp [IntKind.wrap, IntKind.bits, IntKind.signed]; omega
      have f2 := free_blk hb2 1
      have HP := Lib.hid ((HB.out.1.pass HQ1.out).2 _ rfl)
      have HF := Lib.hid (fail_is p 8 E l.tail d N.length v us N _ HP.out.1 (by decide) (Nat.le_refl _))
      clear hb2 k2 k3 k6 k7 k8 k9 k10 hA hli
      clear HQ2 HQ3 HQ1
      cases g with
      | nil =>
        have hlt : c < lo := by
          rcases hbad with h | h
          · exact absurd rfl h
          · exact h
        have hlt2 : decide (c < lo) = true := decide_eq_true hlt
        clear hbad
        go_wp2_with fail
        refine HF.out.mono ?_
        rintro e w3 ⟨rfl, h3, m3⟩
        have H3 := Lib.hid h3; have M3 := Lib.hid (Mp.trans (Mp.trans M2.out HB.out.2) (Mp.trans HP.out.2 m3))
        clear h3 m3
        go_wp2
        go_ret
        rw [HR.out]
        exact ⟨_, rfl, by have := H3.out; have e92 := H92.out; rw [if_pos e92]; exact this, M3.out⟩
      | cons s0 gs =>
        have hn0 : 0 < (s0 :: gs).length := by simp
        generalize (s0 :: gs).length = n at *
        have hg1 : (0 : Int) < (n : Int) := by omega
        have hg2 : decide ((0 : Int) < (n : Int)) = true := decide_eq_true hg1
        have hg3 : decide (0 < n) = true := decide_eq_true hn0
        clear hbad
        go_wp2_with fail
        refine HF.out.mono ?_
        rintro e w3 ⟨rfl, h3, m3⟩
        have H3 := Lib.hid h3; have M3 := Lib.hid (Mp.trans (Mp.trans M2.out HB.out.2) (Mp.trans HP.out.2 m3))
        clear h3 m3
        go_wp2
        go_ret
        rw [HR.out]
        exact ⟨_, rfl, by have := H3.out; have e92 := H92.out; rw [if_pos e92]; exact this, M3.out⟩
    · have hg : g = [] := by
        cases g with
        | nil => rfl
        | cons a b => exact absurd (.inl (by simp)) hbad
      subst hg
      have hle : lo ≤ c := by
        have : ¬ c < lo := fun h => hbad (.inr h)
        omega
      have HR := Lib.hid (HQ3.out rfl hle)
      have hlt : decide (c < lo) = false := by simp; exact hle
      have hlt2 : ¬ c < lo := by omega
      clear hbad hle
      go_wp2
      go_ret
      rw [HR.out]
      exact ⟨rfl, H2.out, M2.out⟩
theorem last_one (p : Nat) (E : Env) (l : List Pc) (d : Nat) (v : Value) (us : List Value) (N : List Nd) (w : World) (h : RP w p E l d v us N) (lo : Int) (h0 : 0 ≤ lo) (h92 : nowP l ≠ 92) : Calls Tryz.prog 123 #[.pointer (some ⟨p, 0, none⟩), .int .i32 lo] w (OutRl p E d v us N w (singleP lo l)) := by
  have hnb : ¬ (nowP l = 92 ∧ 125 < lo) := by omega
  have HN := Lib.hid (now_rp p E l d v us N w h)
  have hnr : (nowR l == 92) = false := by
    rw [beq_eq_false_iff_ne]
    unfold nowR
    split
    · decide
    · split
      · decide
      · exact h92
  obtain ⟨top, s, size, plain, bad, hb, c0, c1, c2, c3, c6, c7, c8, c9, c10⟩ := h.cells
  have HS := Lib.hid (fun W (k : RP W p E l d v us N) => single_is p E l d v us N W k)
  have hok := fun c g l' e => last_ok (l := l) h0 hnb (c := c) (g := g) (l' := l') e
  have hno := fun f e => last_no (l := l) h0 hnb (f := f) e
  obtain ⟨RES, hres⟩ : ∃ RES, RES = singleP lo l := ⟨_, rfl⟩
  rw [← hres] at hok hno ⊢
  have HBK := Lib.hid (fun W (k : RP W p E l d v us N) => k)
  have HSUF := Lib.hid h.suf; have HNE := Lib.hid h.ne
  generalize sngG l = R at HS hok hno
  have HOK := Lib.hid hok; have HNO := Lib.hid hno; have H92 := Lib.hid h92
  clear hok hno hres h hb c0 c2 c3 c6 c7 c8 c9 c10 hnb h92 h0
  generalize nowR l = x at HN hnr
  go_enter Tryz.func123, Tryz.ntmps123
  go_wp2_with fail
  refine HN.out.mono ?_
  rintro e w1 ⟨rfl, h1, m1⟩
  have M1 := Lib.hid m1; have HS1 := Lib.hid (HS.out _ h1)
  clear h1 m1 HS
  go_wp2_with fail
  refine HS1.out.mono ?_
  intro e w2 ho
  cases R with
  | error f =>
    obtain ⟨rfl, h2, m2⟩ := ho
    obtain ⟨i, top', s', size', plain', d', hb, e0, e1, e3, e6, e7, e8, e9, e10⟩ := h2.cells
    have he := h2.err
    have f1 : ((f.2 : Int) != 0) = true := by rw [bne_iff_ne]; omega
    have f2 : ((f.2 : Int) == 0) = false := by rw [beq_eq_false_iff_ne]; omega
    have H2 := Lib.hid h2; have M2 := Lib.hid (Mp.trans M1.out m2)
    have HR := Lib.hid (HNO.out f rfl)
    clear h2 m2 hb he e0 e1 e3 e6 e7 e8 e10 HOK HNO
    generalize f.2 = y at e9 f1 f2
    go_wp2
    go_ret
    rw [HR.out]
    exact ⟨_, rfl, H2.out, M2.out⟩
  | ok r =>
    obtain ⟨⟨c, g⟩, l'⟩ := r
    obtain ⟨A, k, rfl, -, h2, m2⟩ := ho
    obtain ⟨q1, q2, q3⟩ := HOK.out c g l' rfl
    have HQ1 := Lib.hid q1; have HQ2 := Lib.hid q2; have HQ3 := Lib.hid q3
    obtain ⟨top', s', size', plain', bad', hb, e0, e1, e2, e3, e6, e7, e8, e9, e10⟩ := h2.cells
    have f1 := free_blk hb 1
    have M2 := Lib.hid (Mp.trans M1.out m2)
    have HB := Lib.hid (h2.back HSUF.out HNE.out _ rfl)
    have H2 := Lib.hid h2
    clear h2 m2 hb e0 e2 e3 e6 e7 e8 e10 q1 q2 q3 HOK HNO
    by_cases hbad : g ≠ [] ∨ c < lo
    · have HR := Lib.hid (HQ2.out hbad)
      obtain ⟨b, off, hA, hc, hli⟩ := HB.out.1.next HQ1.out
      obtain ⟨top2, s2, size2, plain2, bad2, hb2, k0, k1, k2, k3, k6, k7, k8, k9, k10⟩ := HB.out.1.cells
      rw [hA] at k0
      have i1 : (E.at' l : Int) < (E.ch.length : Int) := by omega
      have i2 : (0 : Int) ≤ (E.at' l : Int) := by omega
      have hpc : (plainC (nowP l) == 92) = false := by
        rw [beq_eq_false_iff_ne]
        unfold plainC
        split
        · decide
        · exact H92.out
      have HF := Lib.hid (fail_is p 8 E l d N.length v us N _ HB.out.1 (by decide) (Nat.le_refl _))
      generalize plainC (nowP l) = y at hc hpc
      clear hb2 k2 k3 k6 k7 k8 k9 k10 hA hli
      clear HQ2 HQ3 HQ1
      cases g with
      | nil =>
        have hlt : c < lo := by
          rcases hbad with h | h
          · exact absurd rfl h
          · exact h
        have hlt2 : decide (c < lo) = true := decide_eq_true hlt
        clear hbad
        go_wp2_with fail
        refine HF.out.mono ?_
        rintro e w3 ⟨rfl, h3, m3⟩
        have H3 := Lib.hid h3; have M3 := Lib.hid (Mp.trans (Mp.trans M2.out HB.out.2) m3)
        clear h3 m3
        go_wp2
        go_ret
        rw [HR.out]
        exact ⟨_, rfl, by have := H3.out; have e92 := H92.out; rw [if_neg e92]; exact this, M3.out⟩
      | cons s0 gs =>
        have hn0 : 0 < (s0 :: gs).length := by simp
        generalize (s0 :: gs).length = n at *
        have hg1 : (0 : Int) < (n : Int) := by omega
        have hg2 : decide ((0 : Int) < (n : Int)) = true := decide_eq_true hg1
        have hg3 : decide (0 < n) = true := decide_eq_true hn0
        clear hbad
        go_wp2_with fail
        refine HF.out.mono ?_
        rintro e w3 ⟨rfl, h3, m3⟩
        have H3 := Lib.hid h3; have M3 := Lib.hid (Mp.trans (Mp.trans M2.out HB.out.2) m3)
        clear h3 m3
        go_wp2
        go_ret
        rw [HR.out]
        exact ⟨_, rfl, by have := H3.out; have e92 := H92.out; rw [if_neg e92]; exact this, M3.out⟩
    · have hg : g = [] := by
        cases g with
        | nil => rfl
        | cons a b => exact absurd (.inl (by simp)) hbad
      subst hg
      have hle : lo ≤ c := by
        have : ¬ c < lo := fun h => hbad (.inr h)
        omega
      have HR := Lib.hid (HQ3.out rfl hle)
      have hlt : decide (c < lo) = false := by simp; exact hle
      have hlt2 : ¬ c < lo := by omega
      clear hbad hle
      go_wp2
      go_ret
      rw [HR.out]
      exact ⟨rfl, H2.out, M2.out⟩
theorem last_is (p : Nat) (E : Env) (l : List Pc) (d : Nat) (v : Value) (us : List Value) (N : List Nd) (w : World) (h : RP w p E l d v us N) (lo : Int) (h0 : 0 ≤ lo) : Calls Tryz.prog 123 #[.pointer (some ⟨p, 0, none⟩), .int .i32 lo] w (OutRl p E d v us N w (singleP lo l)) := by
  by_cases h92 : nowP l = 92
  · by_cases hlo : 125 < lo
    · exact last_over p E l d v us N w h lo h92 hlo
    · exact last_esc p E l d v us N w h lo h0 h92 (by omega)
  · exact last_one p E l d v us N w h lo h0 h92
end
end
section
set_option linter.unusedVariables false
set_option linter.unusedSimpArgs false
open Go.RowKit

/-- A part that was read. -/
def OutN (p : Nat) (E : Env) (d : Nat) (v : Value) (N : List Nd) (n0 M : Nat) (w : World) (r : Rs Re) (e : Ending) (w' : World) : Prop :=
  match r with
  | .ok (t, l') => ∃ (n : Nat) (v' : Value) (us' : List Value) (N2 : List Nd), e = .returned (.int .i64 (n : Nat)) ∧ RP w' p E l' d v' us' (N ++ N2) ∧ Rep (N ++ N2) n t ∧ (N ++ N2).length + 4 * l'.length ≤ n0 ∧ Mvd p v v' w w'
  | .error f => ∃ (n : Nat) (v' : Value), e = .returned (.int .i64 (n : Nat)) ∧ RE w' p E f v' M ∧ Mvd p v v' w w'
/-- What is left to be read of a class. -/
def restC (acc : Spans) (l : List Pc) : Rs Spans :=
  if acc = [] then match memberP l with | .error f => .error f | .ok (m, l2) => membersP l2.length m l2 else membersP l.length acc l
def clsT (neg : Bool) (r : Rs Spans) : Rs Re := match r with | .error f => .error f | .ok (m, l3) => .ok (.set m neg, l3.tail)
theorem classP_eq (l : List Pc) : classP l = clsT (decide (nowP l.tail = 94)) (restC [] (if decide (nowP l.tail = 94) then l.tail.tail else l.tail)) := by
  unfold classP clsT restC
  simp only [if_true]
  generalize (if decide (nowP l.tail = 94) = true then l.tail.tail else l.tail) = l1
  cases memberP l1 with
  | error f => rfl
  | ok r => rfl
theorem sng_shr {l : List Pc} (h : OkL l) {c : Int} {g : Spans} {l1 : List Pc} (e : sngG l = .ok ((c, g), l1)) : Shr l l1 := by
  unfold sngG at e
  split at e
  · rename_i h92
    have hn : nowP l ≠ -1 := by rw [h92]; decide
    rcases esc_cases h92 with ⟨g', e1, e2, e3, e4, e5⟩ | ⟨x, rfl, e1, e2, e3, e4⟩ | ⟨e1, e2⟩
    · rw [e1] at e; simp only at e; rw [if_pos e2] at e
      injection e with e; injection e with _ e; subst e
      exact (Shr.tail h hn).then (Shr.tail (h.tail hn) e4).le
    · rw [e1] at e; simp only at e; rw [if_neg (by rw [e2]; decide)] at e
      injection e with e; injection e with _ e; subst e
      have h5 : nowP l.tail ≠ -1 := by omega
      exact (Shr.tail h hn).then (Shr.tail (h.tail hn) h5).le
    · rw [e1] at e; cases e
  · split at e
    · rename_i hc
      simp only [Bool.and_eq_true, decide_eq_true_eq] at hc
      injection e with e; injection e with _ e; subst e
      exact Shr.tail h (by omega)
    · cases e
/-- A member of a class, by the single rune that it begins with. -/
theorem member_err {l : List Pc} {f : Flt} (e : sngG l = .error f) : memberP l = .error f := by
  have h := last_no (l := l) (lo := 0) (by decide) (by omega) e
  unfold memberP
  have hm : manyL l = none := by
    cases hm : manyL l with
    | none => rfl
    | some g =>
      unfold manyL at hm
      split at hm
      · rename_i h92
        unfold sngG at e
        rw [if_pos h92, esc_many h92 hm] at e
        simp only at e
        split at e <;> cases e
      · cases hm
  rw [hm, h]
theorem member_many {l : List Pc} {c : Int} {g : Spans} {l1 : List Pc} (e : sngG l = .ok ((c, g), l1)) (hg : g ≠ []) : memberP l = .ok (g, l1) ∧ g.length ≤ 4 := by
  unfold sngG at e
  split at e
  · rename_i h92
    rcases esc_cases h92 with ⟨g', e1, e2, e3, e4, e5⟩ | ⟨x, rfl, e1, e2, e3, e4⟩ | ⟨e1, e2⟩
    · have e1' := e1
      rw [e1] at e; simp only at e; rw [if_pos e2] at e
      injection e with e; injection e with e6 e7; injection e6 with e6 e8; subst e7; subst e8
      have hm : manyP (nowP l.tail) = some g' := by
        cases hm : manyP (nowP l.tail) with
        | some g2 => rw [esc_many h92 hm] at e1'; injection e1' with e1'; injection e1' with e1' _; rw [e1']
        | none =>
          exfalso
          unfold escG manyL at e1'
          rw [if_pos h92, hm] at e1'
          simp only at e1'
          split at e1'
          · cases e1'
          · injection e1' with e1'; injection e1' with e1' _; subst e1'; simp [wideS] at e2
      refine ⟨?_, ?_⟩
      · unfold memberP manyL; rw [if_pos h92, hm]
      · rcases many_cases (nowP l.tail) with ⟨_, e9⟩ | ⟨_, e9⟩ | ⟨_, e9⟩ | ⟨_, _, _, e9⟩
        · rw [hm] at e9; injection e9 with e9; subst e9; decide
        · rw [hm] at e9; injection e9 with e9; subst e9; decide
        · rw [hm] at e9; injection e9 with e9; subst e9; decide
        · rw [hm] at e9; cases e9
    · rw [e1] at e; simp only at e; rw [if_neg (by rw [e2]; decide)] at e
      injection e with e; injection e with e6 e7; injection e6 with e6 e8; exact absurd e8.symm hg
    · rw [e1] at e; cases e
  · split at e
    · injection e with e; injection e with e6 e7; injection e6 with e6 e8; exact absurd e8.symm hg
    · cases e
theorem member_one {l : List Pc} {c : Int} {l1 : List Pc} (e : sngG l = .ok ((c, []), l1)) : 0 ≤ c ∧ memberP l = if nowP l1 = 45 then (match singleP c l1.tail with | .error f => .error f | .ok (hi, l2) => .ok ([(c, hi)], l2)) else .ok ([(c, c)], l1) := by
  have hc : 0 ≤ c := by
    unfold sngG at e
    split at e
    · rename_i h92
      rcases esc_cases h92 with ⟨g', e1, e2, e3, e4, e5⟩ | ⟨x, rfl, e1, e2, e3, e4⟩ | ⟨e1, e2⟩
      · rw [e1] at e; simp only at e; rw [if_pos e2] at e
        injection e with e; injection e with e6 e7; injection e6 with e6 e8; omega
      · rw [e1] at e; simp only at e; rw [if_neg (by rw [e2]; decide)] at e
        injection e with e; injection e with e6 e7; injection e6 with e6 e8; rw [← e6]; exact e3
      · rw [e1] at e; cases e
    · split at e
      · rename_i hc
        simp only [Bool.and_eq_true, decide_eq_true_eq] at hc
        injection e with e; injection e with e6 e7; injection e6 with e6 e8; omega
      · cases e
  refine ⟨hc, ?_⟩
  have h := (last_ok (l := l) (lo := 0) (by decide) (by omega) e).2.2 rfl hc
  have hm : manyL l = none := by
    cases hm : manyL l with
    | none => rfl
    | some g =>
      exfalso
      unfold manyL at hm
      split at hm
      · rename_i h92
        unfold sngG at e
        rw [if_pos h92, esc_many h92 hm] at e
        simp only at e
        split at e
        · injection e with e; injection e with e6 e7; injection e6 with e6 e8; subst e8
          rcases many_cases (nowP l.tail) with ⟨_, e9⟩ | ⟨_, e9⟩ | ⟨_, e9⟩ | ⟨_, _, _, e9⟩ <;> (rw [hm] at e9; cases e9)
        · rename_i hw
          apply hw
          rcases many_cases (nowP l.tail) with ⟨_, e9⟩ | ⟨_, e9⟩ | ⟨_, e9⟩ | ⟨_, _, _, e9⟩
          · rw [hm] at e9; injection e9 with e9; subst e9; rfl
          · rw [hm] at e9; injection e9 with e9; subst e9; rfl
          · rw [hm] at e9; injection e9 with e9; subst e9; rfl
          · rw [hm] at e9; cases e9
      · cases hm
  unfold memberP
  rw [hm, h]
  simp only
  rfl
theorem restC_end {acc : Spans} {l : List Pc} (h : OkL l) (ha : acc ≠ []) (h93 : nowP l = 93) : restC acc l = .ok (acc, l) := by
  unfold restC; rw [if_neg ha, members_step acc h, if_pos h93]
theorem restC_step {acc m : Spans} {l l1 : List Pc} (h : OkL l) (hm : memberP l = .ok (m, l1)) (hn : m ≠ []) (h93 : ¬ (acc ≠ [] ∧ nowP l = 93)) : restC acc l = restC (acc ++ m) l1 := by
  unfold restC
  rw [if_neg (show acc ++ m ≠ [] from fun e => hn (List.append_eq_nil_iff.mp e).2)]
  by_cases ha : acc = []
  · rw [if_pos ha, hm, ha, List.nil_append]
  · rw [if_neg ha, members_step acc h, if_neg (fun e => h93 ⟨ha, e⟩), hm]
theorem restC_err {acc : Spans} {l : List Pc} {f : Flt} (h : OkL l) (hm : memberP l = .error f) (h93 : ¬ (acc ≠ [] ∧ nowP l = 93)) : restC acc l = .error f := by
  unfold restC
  by_cases ha : acc = []
  · rw [if_pos ha, hm]
  · rw [if_neg ha, members_step acc h, if_neg (fun e => h93 ⟨ha, e⟩), hm]
/-- Blocks from B on turn, where nothing of the parser lies. -/
theorem RP.keep {w w' : World} {p : Nat} {E : Env} {l : List Pc} {d : Nat} {v : Value} {us : List Value} {N : List Nd} (h : RP w p E l d v us N) {B : Nat} (hv : ∀ k, v.ownBlock = some k → k < B) (hus : ∀ (i : Nat) (u : Value), us[i]? = some u → ∀ k, u.ownBlock = some k → k < B) (hp : p < B)
    (m : Mv (fun k => B ≤ k) w w') : RP w' p E l d v us N := by
  obtain ⟨top, s, size, plain, bad, hb⟩ := h.box
  exact ⟨⟨top, s, size, plain, bad, (m.block _ (blk_lt hb) (by omega)).trans hb⟩, h.suf, h.ne,
    ⟨h.ns.len, own_mv h.ns.row m fun k hk => by have := hv k hk; omega, fun i u a hu ha => own_mv (h.ns.sp i u a hu ha) m fun k hk => by have := hus i u hu k hk; omega⟩,
    h.rd.blk fun b hb' e => m.block b hb' (by have := h.ab b e; omega), h.ab, h.len, h.few⟩
structure ClsR (w wr : World) (p : Nat) (E : Env) (d : Nat) (v : Value) (us : List Value) (N : List Nd) (neg : Bool) (RES : Rs Re) (acc : Spans) (l : List Pc) (u : Value) : Prop where
  rp : RP wr p E l d v us N
  box : wr.heap[w.heap.size]? = some (.cells #[.int .i64 0, .int .i64 0, .int .i64 0, u, .bool neg] 172 (0, 0))
  row : wr.ownsRow (w.heap.size + 1) 181 2 u acc.length (spC acc)
  mv : Mv (fun k => k = p) w wr
  few : acc.length + 4 * l.length ≤ 4100
  res : RES = clsT neg (restC acc l)
def ClsRel (w : World) (p : Nat) (E : Env) (d : Nat) (v : Value) (us : List Value) (N : List Nd) (neg : Bool) (RES : Rs Re) (n : Nat) (wr : World) : Prop :=
  (∃ u acc l, ClsR w wr p E d v us N neg RES acc l u ∧ l.length ≤ n) ∨ (∃ f, RE wr p E f v N.length ∧ Mv (fun k => k = p) w wr ∧ RES = .error f)
def clN (n p : Nat) (w : World) : Nat :=
  match w.cell? ⟨p, 9, none⟩ with
  | some (.int _ e) => if e = 0 then (match w.cell? ⟨p, 1, none⟩ with | some (.int _ i) => n + 2 - i.toNat | _ => 0) else 0
  | _ => 0
theorem RP.clN {w : World} {p : Nat} {E : Env} {l : List Pc} {d : Nat} {v : Value} {us : List Value} {N : List Nd} (h : RP w p E l d v us N) : clN E.pl.length p w = l.length + 2 := by
  obtain ⟨top, s, size, plain, bad, hb, c0, c1, c2, c3, c6, c7, c8, c9, c10⟩ := h.cells
  obtain ⟨h1, h2⟩ := h.pos
  unfold Go.Proofs.YtinjdlplbficiaaGreatDoor.clN
  rw [c9, c1]
  simp only [if_true]
  omega
theorem RE.clN {w : World} {p : Nat} {E : Env} {f : Flt} {v : Value} {M : Nat} (h : RE w p E f v M) (n : Nat) : clN n p w = 0 := by
  obtain ⟨i, top, s, size, plain, d, hb, c0, c1, c3, c6, c7, c8, c9, c10⟩ := h.cells
  have := h.err
  unfold Go.Proofs.YtinjdlplbficiaaGreatDoor.clN
  rw [c9]
  simp only
  rw [if_neg (by omega)]
theorem spC_one' (l : Spans) : ∀ u ∈ spC l, u.oneCell' = true := by
  intro u hu
  unfold spC at hu
  rw [List.mem_flatMap] at hu
  obtain ⟨s, _, hs⟩ := hu
  simp only [List.mem_cons, List.not_mem_nil, or_false] at hs
  rcases hs with rfl | rfl <;> rfl
theorem infoPair : (Tryz.prog.info? 181).map (fun i => (i.zero, i.size, i.bytes)) = some (some (.agg #[.int .i32 0, .int .i32 0]), 2, 8) := by kernel_rfl
section
set_option maxHeartbeats 1600000
set_option maxRecDepth 100000
end
end
end Go.Proofs.YtinjdlplbficiaaGreatDoor
