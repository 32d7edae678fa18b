/-
  EvEq, KKer, SgtMath, Trod, IntsTwo, HdL, HdR, KerPoke, GPoke, KerGP, StL, SgtCR, SgtC, SSame0, SgtAr: joined into one text.
-/
import Derived.Test.YtfconbblnmbnpadDoorJa1
import Derived.Laws.StructEq
import Derived.Test.YtfconbblnmbnpadDoorJa8
import Derived.Test.YtfconbblnmbnpadDoorJa3
import Derived.Deep.RegionHeld3
import Derived.Deep.CutRange
import Derived.Deep.RegionWith
import Derived.BigQuiet
import Derived.Test.YtfconbblnmbnpadDoorJa7
import Derived.Test.YtfconbblnmbnpadDoorKerG
import Derived.Deep.RegionLaw
namespace Go.Proofs.YtfconbblnmbnpadDoor
open Go.RowKit

theorem fieldsEv : Tryd.prog.underlying 44 = some (.struct (Tryd.prog.fieldsOf 44)) := by kernel_rfl
theorem stoodEv : Tryd.prog.stoodInHeld 44 = false := by kernel_rfl
theorem fieldsEvIs : Tryd.prog.fieldsOf 44 = #[{ name := "Tick", type := 3, offset := 0, embedded := false, tag := "", pkgPath := "", byteOffset := 0 }, { name := "Room", type := 3, offset := 1, embedded := false, tag := "", pkgPath := "", byteOffset := 8 }, { name := "At", type := 3, offset := 2, embedded := false, tag := "", pkgPath := "", byteOffset := 16 }, { name := "What", type := 3, offset := 3, embedded := false, tag := "", pkgPath := "", byteOffset := 24 }] := by kernel_rfl
theorem eqIn_ev (a b c d : Int) (w : World) : (Op.equalIn 10000 44 (.agg #[.int .i64 a, .int .i64 b, .int .i64 c, .int .i64 d]) (.agg #[.int .i64 a, .int .i64 b, .int .i64 c, .int .i64 d])).run Tryd.prog w = .ok true w := by
  rw [run_equalIn_agg _ _ _ _ _ fieldsEv stoodEv, fieldsEvIs]
  simp [go_sem, Tryd.underlying3]
theorem eql_ev (a b c d : Int) (w : World) : (binOp .eql 44 (.agg #[.int .i64 a, .int .i64 b, .int .i64 c, .int .i64 d]) (.agg #[.int .i64 a, .int .i64 b, .int .i64 c, .int .i64 d])).run Tryd.prog w = .ok (.bool true) w := by
  rw [run_eql_struct, eqIn_ev]
  rfl
theorem neq_ev (a b c d : Int) (w : World) : (binOp .neq 44 (.agg #[.int .i64 a, .int .i64 b, .int .i64 c, .int .i64 d]) (.agg #[.int .i64 a, .int .i64 b, .int .i64 c, .int .i64 d])).run Tryd.prog w = .ok (.bool false) w := by
  rw [run_neq_struct, eqIn_ev]
  rfl
theorem guardEv : Tryd.prog.eqGuardType Tryd.prog.depth 44 = false := by kernel_rfl
end Go.Proofs.YtfconbblnmbnpadDoor
namespace Go.Proofs.YtfconbblnmbnpadDoor
open Go.RowKit

/-- Neither has what the other one has. -/
structure KK {G : World → Prop} (C : KerC G) (w1 wr : World) (p : PD) (vc vs vw : Value) (k m : KD) (kb mb : Nat) (F H : List Nat) : Prop where
  K : C.K w1 wr p vc vs vw k kb F
  M : C.K w1 wr p vc vs vw m mb H
  ap : ∀ g ∈ F, g ∉ H
  ok : KOk p k
  ok' : KOk p m
theorem KK.lt {G : World → Prop} {C : KerC G} {w1 wr : World} {p : PD} {vc vs vw : Value} {k m : KD} {kb mb : Nat} {F H : List Nat} (h : KK C w1 wr p vc vs vw k m kb mb F H) : ∀ g ∈ F ++ H, w1.heap.size ≤ g ∧ g < wr.heap.size := fun g hg => by
  rcases List.mem_append.1 hg with h1 | h1
  · exact C.ge h.K g h1
  · exact C.ge h.M g h1
theorem KK.all {G : World → Prop} {C : KerC G} {w1 wr w' : World} {p : PD} {vc vs vw : Value} {k m : KD} {kb mb : Nat} {F H : List Nat} (h : KK C w1 wr p vc vs vw k m kb mb F H) (hb : Below wr.heap.size wr w') : KK C w1 w' p vc vs vw k m kb mb F H :=
  ⟨C.frame h.K (KTouch.of (M := []) hb) (by simp), C.frame h.M (KTouch.of (M := []) hb) (by simp), h.ap, h.ok, h.ok'⟩
/-- Blocks of the caller's own are written. -/
theorem KK.set {G : World → Prop} {C : KerC G} {w1 wr w' : World} {p : PD} {vc vs vw : Value} {k m : KD} {kb mb : Nat} {F H : List Nat} (h : KK C w1 wr p vc vs vw k m kb mb F H) {b : Nat} (ht : KTouch [b] wr w') (hb : b ∉ F ++ H) (hw : w1.heap.size ≤ b) : KK C w1 w' p vc vs vw k m kb mb F H := by
  have h1 : b ∉ F := fun e => hb (List.mem_append.2 (Or.inl e))
  have h2 : b ∉ H := fun e => hb (List.mem_append.2 (Or.inr e))
  refine ⟨C.frame h.K ht (fun x hx => ?_), C.frame h.M ht (fun x hx => ?_), h.ap, h.ok, h.ok'⟩
  · rw [List.mem_singleton] at hx
    subst hx
    exact ⟨h1, hw⟩
  · rw [List.mem_singleton] at hx
    subst hx
    exact ⟨h2, hw⟩
/-- What came of a call on both. -/
structure KWent {G : World → Prop} (C : KerC G) (w1 W w' : World) (p : PD) (vc vs vw : Value) (k m : KD) (kb mb : Nat) (F H F' H' : List Nat) : Prop where
  kk : KK C w1 w' p vc vs vw k m kb mb F' H'
  touch : KTouch (F ++ H) W w'
  new : ∀ g ∈ F' ++ H', g ∈ F ++ H ∨ W.heap.size ≤ g
theorem KWent.keep {G : World → Prop} {C : KerC G} {w1 W w' : World} {p : PD} {vc vs vw : Value} {k m : KD} {kb mb : Nat} {F H F' H' : List Nat} (h : KWent C w1 W w' p vc vs vw k m kb mb F H F' H') {b : Nat} (hb : b < W.heap.size) (hn : b ∉ F ++ H) : w'.heap[b]? = W.heap[b]? ∧ b ∉ F' ++ H' := by
  refine ⟨h.touch.block b hb hn, fun hm => ?_⟩
  rcases h.new b hm with h1 | h1
  · exact hn h1
  · omega
/-- A tick of both, one behind the other; in between the caller lays memory of its own. -/
theorem kk_tick {G : World → Prop} {C : KerC G} {w1 W : World} {p : PD} {vc vs vw : Value} {k m : KD} {kb mb : Nat} {F H : List Nat} (hG : G w1) (hp : plchk p = 0) (ht : k.time < 100000000) (ht' : m.time < 100000000) (h : KK C w1 W p vc vs vw k m kb mb F H) :
    Calls Tryd.prog 11 #[.pointer (some ⟨kb, 0, none⟩)] W fun e w2 => e = .returned (evA (tickK p p.spans k).2) ∧ KTouch (F ++ H) W w2 ∧ ∀ w3, Below w2.heap.size w2 w3 →
      Calls Tryd.prog 11 #[.pointer (some ⟨mb, 0, none⟩)] w3 fun e w' => e = .returned (evA (tickK p p.spans m).2) ∧ ∃ F' H', KWent C w1 W w' p vc vs vw (tickK p p.spans k).1 (tickK p p.spans m).1 kb mb F H F' H' ∧ KTouch (F ++ H) w3 w' := by
  refine (C.tick hG h.K hp h.ok ht).mono ?_
  rintro e w2 ⟨rfl, F', hK', tk, hF'⟩
  have hM2 := C.frame h.M tk (fun x hx => ⟨h.ap x hx, (C.ge h.K x hx).1⟩)
  refine ⟨rfl, tk.mono (fun x hx => List.mem_append.2 (Or.inl hx)), fun w3 hb => ?_⟩
  refine (C.tick hG (C.frame hM2 (KTouch.of (M := []) hb) (by simp)) hp h.ok' ht').mono ?_
  rintro e w' ⟨rfl, H', hM', tk2, hH'⟩
  have hs2 := tk.size
  have hs3 := hb.size
  have hap : ∀ g ∈ F', g ∉ H := fun g hg hm => by
    rcases hF' g hg with h1 | h1
    · exact h.ap g h1 hm
    · have := (C.ge h.M g hm).2
      omega
  have hK3 := C.frame hK' (KTouch.of (M := []) hb) (by simp)
  have hflt := fun g hg => (C.ge hK3 g hg).2
  refine ⟨rfl, F', H', ⟨⟨C.frame hK3 tk2 (fun x hx => ⟨fun hm => hap x hm hx, (C.ge h.M x hx).1⟩), hM', fun g hg hm => ?_, tick_ok hp h.ok, tick_ok hp h.ok'⟩, ?_, fun g hg => ?_⟩, tk2.mono (fun x hx => List.mem_append.2 (Or.inr hx))⟩
  · rcases hH' g hm with h1 | h1
    · exact hap g hg h1
    · have := hflt g hg
      omega
  · exact ((tk.mono (fun x hx => List.mem_append.2 (Or.inl hx))).trans (KTouch.of hb)).trans (tk2.mono (fun x hx => List.mem_append.2 (Or.inr hx)))
  · rcases List.mem_append.1 hg with h1 | h1
    · rcases hF' g h1 with h2 | h2
      · exact Or.inl (List.mem_append.2 (Or.inl h2))
      · exact Or.inr h2
    · rcases hH' g h1 with h2 | h2
      · exact Or.inl (List.mem_append.2 (Or.inr h2))
      · exact Or.inr (by omega)
/-- Both are new. -/
theorem kk_new {G : World → Prop} {C : KerC G} {w1 w2 w3 : World} {p : PD} {vc vs vw : Value} {kb mb : Nat} {F H : List Nat} (hp : plchk p = 0) (hK : C.K w1 w2 p vc vs vw (newK p) kb F) (hM : C.K w2 w3 p vc vs vw (newK p) mb H) : KK C w1 w3 p vc vs vw (newK p) (newK p) kb mb F H := by
  have hb1 := C.since hK
  have hb2 := C.since hM
  refine ⟨C.frame hK (KTouch.of (M := []) hb2) (by simp), C.lower hb1 hM, fun g hg hm => ?_, new_ok hp, new_ok hp⟩
  have := (C.ge hK g hg).2
  have := (C.ge hM g hm).1
  omega
/-- The second one was made while the first one was there. -/
theorem kk_pair {G : World → Prop} {C : KerC G} {w1 W W' w3 : World} {p : PD} {vc vs vw : Value} {k m : KD} {kb mb : Nat} {F H : List Nat} (hK : C.K w1 W p vc vs vw k kb F) (hb : Below W.heap.size W W') (hM : C.K W' w3 p vc vs vw m mb H) (hk : KOk p k) (hm : KOk p m) : KK C w1 w3 p vc vs vw k m kb mb F H := by
  have hK' := C.frame hK (KTouch.of (M := []) hb) (by simp)
  have hb1 := C.since hK'
  have hb2 := C.since hM
  refine ⟨C.frame hK' (KTouch.of (M := []) hb2) (by simp), C.lower hb1 hM, fun g hg hm => ?_, hk, hm⟩
  have := (C.ge hK' g hg).2
  have := (C.ge hM g hm).1
  omega
end Go.Proofs.YtfconbblnmbnpadDoor
namespace Go.Proofs.YtfconbblnmbnpadDoor

/-- A wire that leads to a room, or comes from it. -/
def atR (r : Int) (l : LnD) : Bool := decide (l.w.1 = r) || decide (l.w.2.1 = r)
/-- What a room sees of a kernel's lines. -/
def seesK (k : KD) (r : Int) : List (List Int × Int) := (k.lines.filter (atR r)).map fun l => (l.xs, l.ls)
/-- A room's states ahead of each of n ticks, and behind the last one. -/
def statesK (p : PD) (n r : Nat) : List St := (List.range (n + 1)).map fun t => (kT p t).rooms.getD r stNew
theorem statesK_len (p : PD) (n r : Nat) : (statesK p n r).length = n + 1 := by simp [statesK]
theorem statesK_zero (p : PD) (r : Nat) : statesK p 0 r = [(newK p).rooms.getD r stNew] := by simp [statesK, kT]
theorem statesK_succ (p : PD) (n r : Nat) : statesK p (n + 1) r = statesK p n r ++ [(kT p (n + 1)).rooms.getD r stNew] := by
  unfold statesK
  rw [List.range_succ, List.map_append]
  rfl
theorem statesK_first (p : PD) (n r : Nat) : (statesK p n r)[0]? = some stNew := by
  have h : (newK p).rooms.getD r stNew = stNew := by
    unfold newK
    simp only [List.getD, List.getElem?_map]
    cases p.code[r]? <;> rfl
  rw [← h]
  simp [statesK, kT]
/-- What is wrong with a run. -/
def runE (p : PD) (n r : Int) : Int := if plchk p = 0 then (if r < 0 ∨ (p.code.length : Int) ≤ r ∨ n < 0 ∨ 2000 < n then 1 else 0) else plchk p
/-- Two states that look the same. -/
structure StSame (s t : St) : Prop where
  p : s.p = t.p
  c : ∀ i, i < 6 → s.c i = t.c i
  f : s.f = t.f
theorem StSame.refl (s : St) : StSame s s := ⟨rfl, fun _ _ => rfl, rfl⟩
theorem cells_same {o : O3} {c d : Nat → Int} {g : Int} {b : Bool} (h : ∀ i, i < 6 → c i = d i) (hA : o.2.1.toNat < 6) (hB : o.1 = 2 ∨ o.1 = 3 ∨ o.1 = 4 ∨ o.1 = 5 → o.2.2.toNat < 6) : ∀ i, i < 6 → cellsF o c g b i = cellsF o d g b i := fun i hi => by
  have hu : ∀ v, upd c o.2.1.toNat v i = upd d o.2.1.toNat v i := fun v => by
    unfold upd
    split
    · rfl
    · exact h i hi
  unfold cellsF
  split
  · exact hu _
  split
  · rename_i h2; rw [h _ (hB (by omega))]; exact hu _
  split
  · rename_i h3; rw [h _ hA, h _ (hB (by omega))]; exact hu _
  split
  · rename_i h4; rw [h _ hA, h _ (hB (by omega))]; exact hu _
  split
  · rename_i h5; rw [h _ hA, h _ (hB (by omega))]; exact hu _
  split
  · split
    · exact hu _
    · exact h i hi
  · exact h i hi
theorem step_same {o : O3} {s t : St} {n : Nat} {g : Int} {b : Bool} (h : StSame s t) (hA : o.2.1.toNat < 6) (hB : o.1 = 2 ∨ o.1 = 3 ∨ o.1 = 4 ∨ o.1 = 5 → o.2.2.toNat < 6) : StSame (stepF o s n g b) (stepF o t n g b) := by
  unfold stepF
  rw [← h.f]
  split
  · exact h
  · refine ⟨?_, cells_same h.c hA hB, rfl⟩
    show nextF o s n b = nextF o t n b
    unfold nextF
    rw [h.p, h.c _ hA]
theorem small_args {p : PD} {k : KD} {r : Nat} {c : List O3} {s : St} {o : O3} (h : Turn p k r c s o) : o.2.1.toNat < 6 ∧ (o.1 = 2 ∨ o.1 = 3 ∨ o.1 = 4 ∨ o.1 = 5 → o.2.2.toNat < 6) := by
  have hr := ok3_range h.ok
  have hb := (bA_le o.1).2
  refine ⟨by omega, fun hh => ?_⟩
  rcases hh with e | e | e | e <;> simp [e, bB] at hr <;> omega
/-- One turn of a room that sees the same. -/
theorem turn_same {p : PD} {k m : KD} {r : Nat} {c : List O3} {s t : St} {o : O3} (hk : Turn p k r c s o) (hm : Turn p m r c t o) (hs : StSame s t) (hl : o.1 = 8 ∨ o.1 = 9 → ∃ l, k.lines[o.2.2.toNat]? = some l ∧ m.lines[o.2.2.toNat]? = some l) (hrk : r < k.rooms.length) (hrm : r < m.rooms.length) :
    (turnK p k r).2 = (turnK p m r).2 ∧ ∃ s' t', (turnK p k r).1.rooms[r]? = some s' ∧ (turnK p m r).1.rooms[r]? = some t' ∧ StSame s' t' := by
  obtain ⟨hA, hB⟩ := small_args hk
  have hst : ∀ g b, StSame (stepF o s c.length g b) (stepF o t c.length g b) := fun g b => step_same hs hA hB
  cases hf : s.f with
  | true =>
    have hf' : t.f = true := by rw [← hs.f]; exact hf
    rw [turn_failed hk hf, turn_failed hm hf']
    exact ⟨by rw [hs.p], s, t, hk.hs, hm.hs, hs⟩
  | false =>
    have hf' : t.f = false := by rw [← hs.f]; exact hf
    by_cases h9 : o.1 = 9
    · obtain ⟨l, h1, h2⟩ := hl (Or.inr h9)
      cases hh : (headL l).2 with
      | true =>
        rw [turn_takes hk hf h9 h1 hh, turn_takes hm hf' h9 h2 hh]
        exact ⟨by rw [hs.p], _, _, List.getElem?_set_self hrk, List.getElem?_set_self hrm, hst _ _⟩
      | false =>
        rw [turn_waits hk hf h9 h1 hh, turn_waits hm hf' h9 h2 hh]
        exact ⟨by rw [hs.p], _, _, List.getElem?_set_self hrk, List.getElem?_set_self hrm, hst _ _⟩
    · by_cases h8 : o.1 = 8
      · obtain ⟨l, h1, h2⟩ := hl (Or.inl h8)
        rw [turn_sends hk hf h8 h1, turn_sends hm hf' h8 h2]
        exact ⟨by rw [hs.p], _, _, List.getElem?_set_self hrk, List.getElem?_set_self hrm, hst _ _⟩
      · rw [turn_else hk hf h8 h9, turn_else hm hf' h8 h9]
        exact ⟨by rw [hs.p], _, _, List.getElem?_set_self hrk, List.getElem?_set_self hrm, hst _ _⟩
/-- What is seen the same is the same line. -/
theorem sees_line : ∀ {ls ms : List LnD} {ws : List W4} {r : Int}, ls.length = ws.length → ms.length = ws.length → (∀ (i : Nat) l x, ls[i]? = some l → ws[i]? = some x → l.w = x) → (∀ (i : Nat) l x, ms[i]? = some l → ws[i]? = some x → l.w = x) →
    ((ls.filter (atR r)).map fun l => (l.xs, l.ls)) = ((ms.filter (atR r)).map fun l => (l.xs, l.ls)) → ∀ (i : Nat) x, ws[i]? = some x → x.1 = r ∨ x.2.1 = r → ls[i]? = ms[i]?
  | [], [], _, _, _, _, _, _, _, i, x, _, _ => by simp
  | [], _ :: _, ws, _, h1, h2, _, _, _, _, _, _, _ => by simp at h1 h2; omega
  | _ :: _, [], ws, _, h1, h2, _, _, _, _, _, _, _ => by simp at h1 h2; omega
  | l :: ls, m :: ms, [], _, h1, _, _, _, _, _, _, _, _ => by simp at h1
  | l :: ls, m :: ms, y :: ws, r, h1, h2, h3, h4, h5, i, x, hx, hr => by
    have e1 : l.w = y := h3 0 l y rfl rfl
    have e2 : m.w = y := h4 0 m y rfl rfl
    have ea : atR r m = atR r l := by unfold atR; rw [e1, e2]
    have rest : ((ls.filter (atR r)).map fun l => (l.xs, l.ls)) = ((ms.filter (atR r)).map fun l => (l.xs, l.ls)) ∧ (atR r l = true → l = m) := by
      cases hb : atR r l with
      | true =>
        rw [List.filter_cons_of_pos (by exact hb), List.filter_cons_of_pos (by rw [ea]; exact hb)] at h5
        simp only [List.map_cons, List.cons.injEq, Prod.mk.injEq] at h5
        refine ⟨h5.2, fun _ => ?_⟩
        obtain ⟨lw, lx, ll⟩ := l
        obtain ⟨mw, mx, ml⟩ := m
        simp only at e1 e2 h5
        rw [e1, e2, h5.1.1, h5.1.2]
      | false =>
        rw [List.filter_cons_of_neg (by rw [hb]; decide), List.filter_cons_of_neg (by rw [ea, hb]; decide)] at h5
        exact ⟨h5, fun h => by cases h⟩
    cases i with
    | zero =>
      simp only [List.getElem?_cons_zero, Option.some.injEq] at hx ⊢
      subst hx
      refine rest.2 ?_
      unfold atR
      rw [e1]
      rcases hr with hr | hr <;> simp [hr]
    | succ i =>
      simp only [List.getElem?_cons_succ] at hx ⊢
      exact sees_line (by simpa using h1) (by simpa using h2) (fun j l' x' hl hx => h3 (j + 1) l' x' (by simpa using hl) (by simpa using hx)) (fun j l' x' hl hx => h4 (j + 1) l' x' (by simpa using hl) (by simpa using hx)) rest.1 i x hx hr
/-- WHO SEES THE SAME DOES THE SAME: one tick. -/
theorem tick_same {p : PD} {k m : KD} (hp : plchk p = 0) (hk : KOk p k) (hm : KOk p m) (ht : k.time = m.time) {r : Nat} (hr : r < p.code.length) {s t : St} (hs : k.rooms[r]? = some s) (htt : m.rooms[r]? = some t) (hst : StSame s t) (hsee : seesK k r = seesK m r) :
    (tickK p p.spans k).2.2.1 = (tickK p p.spans m).2.2.1 ∧ ((tickK p p.spans k).2.2.1 = (r : Int) → (tickK p p.spans k).2 = (tickK p p.spans m).2 ∧ ∃ s' t', (tickK p p.spans k).1.rooms[r]? = some s' ∧ (tickK p p.spans m).1.rooms[r]? = some t' ∧ StSame s' t') := by
  have ew : whoK p k = whoK p m := by unfold whoK; rw [ht]
  refine ⟨by rw [(tick_told p k).2, (tick_told p m).2, ew], fun hw => ?_⟩
  rw [(tick_told p k).2] at hw
  have hwm : whoK p m = r := by rw [← ew]; exact hw
  have e1 : tickK p p.spans k = ((turnK p k r).1, k.time, (r : Int), (turnK p k r).2.1, (turnK p k r).2.2) := by
    unfold whoK at hw
    unfold tickK
    simp only [hw]
    rw [if_neg (by omega), Int.toNat_natCast]
  have e2 : tickK p p.spans m = ((turnK p m r).1, m.time, (r : Int), (turnK p m r).2.1, (turnK p m r).2.2) := by
    unfold whoK at hwm
    unfold tickK
    simp only [hwm]
    rw [if_neg (by omega), Int.toNat_natCast]
  obtain ⟨c, s0, o, tk⟩ := turn_of hp hk hr
  obtain rfl : s = s0 := Option.some.inj (hs.symm.trans tk.hs)
  have tm : Turn p m r c t o := ⟨tk.hc, htt, by rw [← hst.p]; exact tk.ho, tk.ck, hm.rooms r c t tk.hc htt, tk.ok⟩
  have hl : o.1 = 8 ∨ o.1 = 9 → ∃ l, k.lines[o.2.2.toNat]? = some l ∧ m.lines[o.2.2.toNat]? = some l := fun ho => by
    have hx : ∃ x, p.wires[o.2.2.toNat]? = some x ∧ (x.1 = (r : Int) ∨ x.2.1 = (r : Int)) := by
      have := op_wire hp tk.hc (List.mem_of_getElem? tk.ho)
      rcases ho with h8 | h9
      · obtain ⟨x, h1, h2⟩ := this.1 h8
        exact ⟨x, h1, Or.inl h2⟩
      · obtain ⟨x, h1, h2⟩ := this.2 h9
        exact ⟨x, h1, Or.inr h2⟩
    obtain ⟨x, hx1, hx2⟩ := hx
    have hlt : o.2.2.toNat < k.lines.length := by rw [hk.ll]; exact (List.getElem?_eq_some_iff.1 hx1).1
    have hl1 : k.lines[o.2.2.toNat]? = some k.lines[o.2.2.toNat] := List.getElem?_eq_getElem hlt
    have := sees_line hk.ll hm.ll (fun i l x h1 h2 => (hk.lines i l x h1 h2).w) (fun i l x h1 h2 => (hm.lines i l x h1 h2).w) hsee _ x hx1 hx2
    exact ⟨_, hl1, by rw [← this]; exact hl1⟩
  have hrl : r < k.rooms.length := by rw [hk.rl]; exact hr
  have hrm : r < m.rooms.length := by rw [hm.rl]; exact hr
  obtain ⟨q1, q2⟩ := turn_same tk tm hst hl hrl hrm
  rw [e1, e2]
  refine ⟨?_, q2⟩
  rw [ht, q1]
end Go.Proofs.YtfconbblnmbnpadDoor
namespace Go.Proofs.YtfconbblnmbnpadDoor
open Go.ChangeShapes

theorem trodAll_four {H : Type} {enc : TypeId × Value → H} {P : Program} {w : World} {base : Nat} {spare : Nat → Bool} {held : Bool} {t0 t1 t2 t3 : TypeId} {args : Array Value} {ds : List (DataW H)} {ps : List MemPlace} (h : DataW.TrodAll enc P w base spare held [t0, t1, t2, t3] args.toList ds ps) :
    ∃ v0 v1 v2 v3 d0 d1 d2 d3 p0 p1 p2 p3, args = #[v0, v1, v2, v3] ∧ ds = [d0, d1, d2, d3] ∧ DataW.Trod enc P w base spare held t0 v0 d0 p0 ∧ DataW.Trod enc P w base spare held t1 v1 d1 p1 ∧ DataW.Trod enc P w base spare held t2 v2 d2 p2 ∧ DataW.Trod enc P w base spare held t3 v3 d3 p3 := by
  obtain ⟨v0, vs0, d0, ds0, p0, q0, hargs, rfl, rfl, h0, r0⟩ := trodAll_cons h
  obtain ⟨v1, vs1, d1, ds1, p1, q1, rfl, rfl, rfl, h1, r1⟩ := trodAll_cons r0
  obtain ⟨v2, vs2, d2, ds2, p2, q2, rfl, rfl, rfl, h2, r2⟩ := trodAll_cons r1
  obtain ⟨v3, vs3, d3, ds3, p3, q3, rfl, rfl, rfl, h3, r3⟩ := trodAll_cons r2
  obtain ⟨rfl, rfl, rfl⟩ := trodAll_nil r3
  exact ⟨v0, v1, v2, v3, d0, d1, d2, d3, p0, p1, p2, p3, by cases args; simp_all, rfl, h0, h1, h2, h3⟩
theorem trodAll_five {H : Type} {enc : TypeId × Value → H} {P : Program} {w : World} {base : Nat} {spare : Nat → Bool} {held : Bool} {t0 t1 t2 t3 t4 : TypeId} {args : Array Value} {ds : List (DataW H)} {ps : List MemPlace} (h : DataW.TrodAll enc P w base spare held [t0, t1, t2, t3, t4] args.toList ds ps) :
    ∃ v0 v1 v2 v3 v4 d0 d1 d2 d3 d4 p0 p1 p2 p3 p4, args = #[v0, v1, v2, v3, v4] ∧ ds = [d0, d1, d2, d3, d4] ∧ DataW.Trod enc P w base spare held t0 v0 d0 p0 ∧ DataW.Trod enc P w base spare held t1 v1 d1 p1 ∧ DataW.Trod enc P w base spare held t2 v2 d2 p2 ∧ DataW.Trod enc P w base spare held t3 v3 d3 p3 ∧ DataW.Trod enc P w base spare held t4 v4 d4 p4 := by
  obtain ⟨v0, vs0, d0, ds0, p0, q0, hargs, rfl, rfl, h0, r0⟩ := trodAll_cons h
  obtain ⟨v1, vs1, d1, ds1, p1, q1, rfl, rfl, rfl, h1, r1⟩ := trodAll_cons r0
  obtain ⟨v2, vs2, d2, ds2, p2, q2, rfl, rfl, rfl, h2, r2⟩ := trodAll_cons r1
  obtain ⟨v3, vs3, d3, ds3, p3, q3, rfl, rfl, rfl, h3, r3⟩ := trodAll_cons r2
  obtain ⟨v4, vs4, d4, ds4, p4, q4, rfl, rfl, rfl, h4, r4⟩ := trodAll_cons r3
  obtain ⟨rfl, rfl, rfl⟩ := trodAll_nil r4
  exact ⟨v0, v1, v2, v3, v4, d0, d1, d2, d3, d4, p0, p1, p2, p3, p4, by cases args; simp_all, rfl, h0, h1, h2, h3, h4⟩
theorem trodAll_six {H : Type} {enc : TypeId × Value → H} {P : Program} {w : World} {base : Nat} {spare : Nat → Bool} {held : Bool} {t0 t1 t2 t3 t4 t5 : TypeId} {args : Array Value} {ds : List (DataW H)} {ps : List MemPlace} (h : DataW.TrodAll enc P w base spare held [t0, t1, t2, t3, t4, t5] args.toList ds ps) :
    ∃ v0 v1 v2 v3 v4 v5 d0 d1 d2 d3 d4 d5 p0 p1 p2 p3 p4 p5, args = #[v0, v1, v2, v3, v4, v5] ∧ ds = [d0, d1, d2, d3, d4, d5] ∧ DataW.Trod enc P w base spare held t0 v0 d0 p0 ∧ DataW.Trod enc P w base spare held t1 v1 d1 p1 ∧ DataW.Trod enc P w base spare held t2 v2 d2 p2 ∧ DataW.Trod enc P w base spare held t3 v3 d3 p3 ∧ DataW.Trod enc P w base spare held t4 v4 d4 p4 ∧ DataW.Trod enc P w base spare held t5 v5 d5 p5 := by
  obtain ⟨v0, vs0, d0, ds0, p0, q0, hargs, rfl, rfl, h0, r0⟩ := trodAll_cons h
  obtain ⟨v1, vs1, d1, ds1, p1, q1, rfl, rfl, rfl, h1, r1⟩ := trodAll_cons r0
  obtain ⟨v2, vs2, d2, ds2, p2, q2, rfl, rfl, rfl, h2, r2⟩ := trodAll_cons r1
  obtain ⟨v3, vs3, d3, ds3, p3, q3, rfl, rfl, rfl, h3, r3⟩ := trodAll_cons r2
  obtain ⟨v4, vs4, d4, ds4, p4, q4, rfl, rfl, rfl, h4, r4⟩ := trodAll_cons r3
  obtain ⟨v5, vs5, d5, ds5, p5, q5, rfl, rfl, rfl, h5, r5⟩ := trodAll_cons r4
  obtain ⟨rfl, rfl, rfl⟩ := trodAll_nil r5
  exact ⟨v0, v1, v2, v3, v4, v5, d0, d1, d2, d3, d4, d5, p0, p1, p2, p3, p4, p5, by cases args; simp_all, rfl, h0, h1, h2, h3, h4, h5⟩
theorem trodAll_seven {H : Type} {enc : TypeId × Value → H} {P : Program} {w : World} {base : Nat} {spare : Nat → Bool} {held : Bool} {t0 t1 t2 t3 t4 t5 t6 : TypeId} {args : Array Value} {ds : List (DataW H)} {ps : List MemPlace} (h : DataW.TrodAll enc P w base spare held [t0, t1, t2, t3, t4, t5, t6] args.toList ds ps) :
    ∃ v0 v1 v2 v3 v4 v5 v6 d0 d1 d2 d3 d4 d5 d6 p0 p1 p2 p3 p4 p5 p6, args = #[v0, v1, v2, v3, v4, v5, v6] ∧ ds = [d0, d1, d2, d3, d4, d5, d6] ∧ DataW.Trod enc P w base spare held t0 v0 d0 p0 ∧ DataW.Trod enc P w base spare held t1 v1 d1 p1 ∧ DataW.Trod enc P w base spare held t2 v2 d2 p2 ∧ DataW.Trod enc P w base spare held t3 v3 d3 p3 ∧ DataW.Trod enc P w base spare held t4 v4 d4 p4 ∧ DataW.Trod enc P w base spare held t5 v5 d5 p5 ∧ DataW.Trod enc P w base spare held t6 v6 d6 p6 := by
  obtain ⟨v0, vs0, d0, ds0, p0, q0, hargs, rfl, rfl, h0, r0⟩ := trodAll_cons h
  obtain ⟨v1, vs1, d1, ds1, p1, q1, rfl, rfl, rfl, h1, r1⟩ := trodAll_cons r0
  obtain ⟨v2, vs2, d2, ds2, p2, q2, rfl, rfl, rfl, h2, r2⟩ := trodAll_cons r1
  obtain ⟨v3, vs3, d3, ds3, p3, q3, rfl, rfl, rfl, h3, r3⟩ := trodAll_cons r2
  obtain ⟨v4, vs4, d4, ds4, p4, q4, rfl, rfl, rfl, h4, r4⟩ := trodAll_cons r3
  obtain ⟨v5, vs5, d5, ds5, p5, q5, rfl, rfl, rfl, h5, r5⟩ := trodAll_cons r4
  obtain ⟨v6, vs6, d6, ds6, p6, q6, rfl, rfl, rfl, h6, r6⟩ := trodAll_cons r5
  obtain ⟨rfl, rfl, rfl⟩ := trodAll_nil r6
  exact ⟨v0, v1, v2, v3, v4, v5, v6, d0, d1, d2, d3, d4, d5, d6, p0, p1, p2, p3, p4, p5, p6, by cases args; simp_all, rfl, h0, h1, h2, h3, h4, h5, h6⟩
end Go.Proofs.YtfconbblnmbnpadDoor
namespace Go.Proofs.YtfconbblnmbnpadDoor
open Go.RowKit
set_option maxRecDepth 1000000 in
set_option maxHeartbeats 4000000 in
theorem ints2_some (la lb : List Int) (a ao ac b bo bc : Nat) (w : World) (ha : a < w.heap.size) (hb : b < w.heap.size) (hlen : la.length = lb.length) (hl : la.length ≤ 1000000)
    (hca : ∀ (i : Nat) z, la[i]? = some z → w.cell? ⟨a, ao + i, none⟩ = some (.int .i64 z)) (hcb : ∀ (i : Nat) z, lb[i]? = some z → w.cell? ⟨b, bo + i, none⟩ = some (.int .i64 z)) :
    Calls Tryd.prog 38 #[.slice (some ⟨a, ao, none⟩) la.length ac, .slice (some ⟨b, bo, none⟩) la.length bc] w fun e w' => e = .returned (.bool (decide (la = lb))) ∧ Below w.heap.size w w' := by
  have HL : Hid (la.length = lb.length) := hlen
  clear hlen
  go_enter Tryd.func38, Tryd.ntmps38
  go_wp2
  go_loopw [5] (fun i wr => ∃ k : Nat, k ≤ la.length ∧ i = .int .i64 k ∧ (∀ j : Nat, j < k → la[j]? = lb[j]?) ∧ Below w.heap.size w wr) (fun i _ => la.length - (intOf i).toNat)
  case atStart => exact ⟨0, Nat.zero_le _, rfl, fun j hj => by omega, Below.refl _ _⟩
  case round =>
    obtain ⟨k, hk, rfl, hall, hbw⟩ := hrel
    have HA : Hid (∀ j : Nat, j < k → la[j]? = lb[j]?) := hall
    clear hall
    by_cases hkl : k < la.length
    · obtain ⟨o, ho⟩ : ∃ o, la[k]? = some o := ⟨la[k], List.getElem?_eq_getElem hkl⟩
      obtain ⟨p, hp⟩ : ∃ p, lb[k]? = some p := ⟨lb[k]'(by rw [← HL.out]; exact hkl), List.getElem?_eq_getElem _⟩
      have e0 := (hbw.cell (p := ⟨a, ao + k, none⟩) ha).trans (hca k o ho)
      have f0 := (hbw.cell (p := ⟨b, bo + k, none⟩) hb).trans (hcb k p hp)
      have HO : Hid (la[k]? = some o) := ho
      have HP : Hid (lb[k]? = some p) := hp
      clear ho hp
      have hki : (k : Int) < (la.length : Int) := by omega
      by_cases hop : o = p
      · subst hop
        go_wp2
        go_quiet (fail)
        go_wp2
        go_roundw
        case rel =>
          refine ⟨k + 1, by omega, by go_num, fun j hj => ?_, below_dN hbw _⟩
          by_cases hjk : j < k
          · exact HA.out j hjk
          · obtain rfl : j = k := by omega
            rw [HO.out, HP.out]
        case measure => simp [intOf]; omega
      · have hdd : (o == p) = false := by simpa using hop
        have HN : Hid (decide (la = lb) = false) := by
          show _ = _
          simp only [decide_eq_false_iff_not]
          intro e
          have h1 := HO.out
          rw [e, HP.out] at h1
          exact hop (Option.some.inj h1).symm
        clear hop
        go_wp2
        go_quiet (fail)
        go_wp2
        go_ret
        exact ⟨wretB HN.out.symm, below_dN hbw _⟩
    · have HN : Hid (decide (la = lb) = true) := by
        show _ = _
        simp only [decide_eq_true_eq]
        apply List.ext_getElem?
        intro j
        by_cases hj : j < k
        · exact HA.out j hj
        · rw [List.getElem?_eq_none (by omega), List.getElem?_eq_none (by rw [← HL.out]; omega)]
      go_wp2
      go_ret
      exact ⟨wretB HN.out.symm, hbw⟩
set_option maxRecDepth 1000000 in
set_option maxHeartbeats 4000000 in
theorem ints2_other (n m ac bc : Nat) (a b : Option Addr) (w : World) (h : ((n : Int) == (m : Int)) = false) :
    Calls Tryd.prog 38 #[.slice a n ac, .slice b m bc] w fun e w' => e = .returned (.bool false) ∧ Below w.heap.size w w' := by
  go_enter Tryd.func38, Tryd.ntmps38
  go_wp2
  go_ret
  exact ⟨rfl, Below.refl _ _⟩
set_option maxRecDepth 1000000 in
set_option maxHeartbeats 4000000 in
theorem ints2_nil (a b : Option Addr) (ac bc : Nat) (w : World) :
    Calls Tryd.prog 38 #[.slice a 0 ac, .slice b 0 bc] w fun e w' => e = .returned (.bool true) ∧ Below w.heap.size w w' := by
  go_enter Tryd.func38, Tryd.ntmps38
  go_wp2
  refine wp_loop_rounds 1 ?_
  rw [rounds_succ]
  go_wp2
  go_ret
  exact ⟨rfl, Below.refl _ _⟩
theorem ints2_any (va vb : Value) (la lb : List Int) (w : World) (ha : Rd w va la) (hb : Rd w vb lb) (hl : la.length ≤ 1000000) :
    Calls Tryd.prog 38 #[va, vb] w fun e w' => e = .returned (.bool (decide (la = lb))) ∧ Below w.heap.size w w' := by
  by_cases hlen : la.length = lb.length
  · rcases ha with ⟨rfl, ao, ac, rfl⟩ | ⟨a, ao, ac, rfl, _, _, hlta, hca⟩
    · have hlb : lb = [] := List.eq_nil_of_length_eq_zero (by simpa using hlen.symm)
      subst hlb
      obtain ⟨bo, bc, hvb⟩ := hb.form
      rw [hvb]
      exact ints2_nil ao bo ac bc w
    · rcases hb with ⟨rfl, bo, bc, rfl⟩ | ⟨b, bo, bc, rfl, _, _, hltb, hcb⟩
      · have hla : la = [] := List.eq_nil_of_length_eq_zero (by simpa using hlen)
        subst hla
        exact ints2_nil _ bo ac bc w
      · rw [← hlen]
        exact ints2_some la lb a ao ac b bo bc w hlta hltb hlen hl hca hcb
  · obtain ⟨ao, ac, rfl⟩ := ha.form
    obtain ⟨bo, bc, rfl⟩ := hb.form
    rw [show decide (la = lb) = false by simp only [decide_eq_false_iff_not]; intro e; exact hlen (by rw [e])]
    exact ints2_other _ _ _ _ _ _ w (by simp; omega)
set_option maxRecDepth 1000000 in
set_option maxHeartbeats 4000000 in
theorem held2_any (va vb : Value) (la lb : List Int) (x y : Int) (w : World) (ha : Rd w va la) (hb : Rd w vb lb) (hl : la.length ≤ 1000000) :
    Calls Tryd.prog 16 #[.agg #[va, .int .i64 x], .agg #[vb, .int .i64 y]] w fun e w' => e = .returned (.bool (decide ((la, x) = (lb, y)))) ∧ Below w.heap.size w w' := by
  obtain ⟨aa, ac, rfl⟩ := ha.form
  obtain ⟨ba, bc, rfl⟩ := hb.form
  have hA : Below w.heap.size w ((w.alloc (.cells #[.slice aa la.length ac, .int .i64 x] 58)).alloc (.cells #[.slice ba lb.length bc, .int .i64 y] 58)) := ((Below.refl _ _).alloc (Nat.le_refl _) _).alloc (by simp) _
  have h := ints2_any _ _ la lb _ (ha.all hA) (hb.all hA) hl
  clear ha hb
  by_cases hxy : x = y
  · subst hxy
    have e : decide ((la, x) = (lb, x)) = decide (la = lb) := by simp
    rw [e]
    clear e
    generalize decide (la = lb) = q at h ⊢
    go_enter Tryd.func16, Tryd.ntmps16
    go_wp2_with (go_at_call 38; refine h.mono ?_; rintro e w1 ⟨rfl, b1⟩; clear h)
    go_ret
    exact ⟨rfl, hA.trans (b1.mono hA.size)⟩
  · have hq : (x == y) = false := by simpa using hxy
    have e : decide ((la, x) = (lb, y)) = false := by simp [hxy]
    rw [e]
    clear e h
    go_enter Tryd.func16, Tryd.ntmps16
    go_wp2
    go_ret
    exact ⟨rfl, hA⟩
end Go.Proofs.YtfconbblnmbnpadDoor
namespace Go.Proofs.YtfconbblnmbnpadDoor
open Go.RowKit

/-- What wires hold, in a row that can be read. -/
def HdL (w : World) (v : Value) (l : List (List Int × Int)) : Prop :=
  (l = [] ∧ ∃ ao cap, v = .slice ao 0 cap) ∨ ∃ b off cap, v = .slice (some ⟨b, off, none⟩) l.length cap ∧ b < w.heap.size ∧ ∀ (i : Nat) x, l[i]? = some x → ∃ u, w.cell? ⟨b, off + i * 2, none⟩ = some u ∧ w.cell? ⟨b, off + i * 2 + 1, none⟩ = some (.int .i64 x.2) ∧ Rd w u x.1
theorem HdL.form {w : World} {v : Value} {l : List (List Int × Int)} (h : HdL w v l) : ∃ ao cap, v = .slice ao l.length cap := by
  rcases h with ⟨rfl, ao, cap, rfl⟩ | ⟨b, off, cap, rfl, _⟩
  · exact ⟨ao, cap, rfl⟩
  · exact ⟨_, cap, rfl⟩
theorem HdL.all {w w' : World} {v : Value} {l : List (List Int × Int)} (h : HdL w v l) (hb : Below w.heap.size w w') : HdL w' v l := by
  rcases h with h | ⟨b, off, cap, rfl, hlt, hc⟩
  · exact Or.inl h
  · refine Or.inr ⟨b, off, cap, rfl, Nat.lt_of_lt_of_le hlt hb.size, fun i x hi => ?_⟩
    obtain ⟨u, h1, h2, h3⟩ := hc i x hi
    exact ⟨u, (hb.cell (p := ⟨b, _, none⟩) hlt).trans h1, (hb.cell (p := ⟨b, _, none⟩) hlt).trans h2, h3.all hb⟩
/-- Short rows alone. -/
def ShortH (l : List (List Int × Int)) : Prop := ∀ x ∈ l, x.1.length ≤ 1000000
set_option maxRecDepth 1000000 in
set_option maxHeartbeats 4000000 in
theorem helds2_some (la lb : List (List Int × Int)) (a ao ac b bo bc : Nat) (w : World) (ha : a < w.heap.size) (hb : b < w.heap.size) (hlen : la.length = lb.length) (hl : la.length ≤ 1000000) (hsh : ShortH la)
    (hca : ∀ (i : Nat) x, la[i]? = some x → ∃ u, w.cell? ⟨a, ao + i * 2, none⟩ = some u ∧ w.cell? ⟨a, ao + i * 2 + 1, none⟩ = some (.int .i64 x.2) ∧ Rd w u x.1) (hcb : ∀ (i : Nat) x, lb[i]? = some x → ∃ u, w.cell? ⟨b, bo + i * 2, none⟩ = some u ∧ w.cell? ⟨b, bo + i * 2 + 1, none⟩ = some (.int .i64 x.2) ∧ Rd w u x.1) :
    Calls Tryd.prog 21 #[.slice (some ⟨a, ao, none⟩) la.length ac, .slice (some ⟨b, bo, none⟩) la.length bc] w fun e w' => e = .returned (.bool (decide (la = lb))) ∧ Below w.heap.size w w' := by
  have HL : Hid (la.length = lb.length) := hlen
  clear hlen
  go_enter Tryd.func21, Tryd.ntmps21
  go_wp2
  go_loopw [5] (fun i wr => ∃ k : Nat, k ≤ la.length ∧ i = .int .i64 k ∧ (∀ j : Nat, j < k → la[j]? = lb[j]?) ∧ Below w.heap.size w wr) (fun i _ => la.length - (intOf i).toNat)
  case atStart => exact ⟨0, Nat.zero_le _, rfl, fun j hj => by omega, Below.refl _ _⟩
  case round =>
    obtain ⟨k, hk, rfl, hall, hbw⟩ := hrel
    have HA : Hid (∀ j : Nat, j < k → la[j]? = lb[j]?) := hall
    clear hall
    by_cases hkl : k < la.length
    · obtain ⟨x, ho⟩ : ∃ o, la[k]? = some o := ⟨la[k], List.getElem?_eq_getElem hkl⟩
      obtain ⟨y, hp⟩ : ∃ p, lb[k]? = some p := ⟨lb[k]'(by rw [← HL.out]; exact hkl), List.getElem?_eq_getElem _⟩
      obtain ⟨u, e0, e1, e2⟩ := hca k x ho
      obtain ⟨v, f0, f1, f2⟩ := hcb k y hp
      replace e0 := (hbw.cell (p := ⟨a, ao + k * 2, none⟩) ha).trans e0
      replace e1 := (hbw.cell (p := ⟨a, ao + k * 2 + 1, none⟩) ha).trans e1
      replace f0 := (hbw.cell (p := ⟨b, bo + k * 2, none⟩) hb).trans f0
      replace f1 := (hbw.cell (p := ⟨b, bo + k * 2 + 1, none⟩) hb).trans f1
      have HO : Hid (la[k]? = some x) := ho
      have HP : Hid (lb[k]? = some y) := hp
      have hxl : x.1.length ≤ 1000000 := hsh x (List.mem_of_getElem? ho)
      have HH : Hid (∀ W, Below wr.heap.size wr W → Calls Tryd.prog 16 #[.agg #[u, .int .i64 x.2], .agg #[v, .int .i64 y.2]] W fun e w' => e = .returned (.bool (decide (x = y))) ∧ Below W.heap.size W w') := fun W hbW => held2_any u v x.1 y.1 x.2 y.2 W (e2.all (hbw.trans (hbW.mono hbw.size))) (f2.all (hbw.trans (hbW.mono hbw.size))) hxl
      clear ho hp e2 f2
      have hki : (k : Int) < (la.length : Int) := by omega
      have bQ : Below wr.heap.size wr wr.drew := (Below.refl _ _).drew
      have haw : a < wr.heap.size := Nat.lt_of_lt_of_le ha hbw.size
      have hbwr : b < wr.heap.size := Nat.lt_of_lt_of_le hb hbw.size
      have hcs : ∀ W, Below wr.heap.size wr W → W.cell? ⟨a, ao + k * 2, none⟩ = some u ∧ W.cell? ⟨a, ao + k * 2 + 1, none⟩ = some (.int .i64 x.2) ∧ W.cell? ⟨b, bo + k * 2, none⟩ = some v ∧ W.cell? ⟨b, bo + k * 2 + 1, none⟩ = some (.int .i64 y.2) := fun W hW => ⟨(hW.cell (p := ⟨a, _, none⟩) haw).trans e0, (hW.cell (p := ⟨a, _, none⟩) haw).trans e1, (hW.cell (p := ⟨b, _, none⟩) hbwr).trans f0, (hW.cell (p := ⟨b, _, none⟩) hbwr).trans f1⟩
      obtain ⟨q, hq⟩ : ∃ q, decide (x = y) = q := ⟨_, rfl⟩
      rw [hq] at HH
      have HQ : Hid (decide (x = y) = q) := hq
      clear hq
      go_upto_region 6 with fail
      go_region_held3 (fun W => W.cell? ⟨a, ao + k * 2, none⟩ = some u ∧ W.cell? ⟨a, ao + k * 2 + 1, none⟩ = some (.int .i64 x.2) ∧ W.cell? ⟨b, bo + k * 2, none⟩ = some v ∧ W.cell? ⟨b, bo + k * 2 + 1, none⟩ = some (.int .i64 y.2))
        (first | exact ⟨e0, e1, f0, f1⟩ | exact hcs _ bW | go_keep)
        (first
          | (go_at_call 16; refine (HH.out _ bQ).mono ?_; rintro e w1 ⟨rfl, b1⟩; have bW : Below wr.heap.size wr w1 := bQ.trans (b1.mono (Nat.le_refl _))))
      cases q with
      | true =>
        go_wp2
        go_roundw
        case rel =>
          refine ⟨k + 1, by omega, by go_num, fun j hj => ?_, hbw.trans (bW.mono hbw.size)⟩
          by_cases hjk : j < k
          · exact HA.out j hjk
          · obtain rfl : j = k := by omega
            rw [HO.out, HP.out, of_decide_eq_true HQ.out]
        case measure => simp [intOf]; omega
      | false =>
        have HN : Hid (decide (la = lb) = false) := by
          show _ = _
          simp only [decide_eq_false_iff_not]
          intro e
          have h1 := HO.out
          rw [e, HP.out] at h1
          exact of_decide_eq_false HQ.out (Option.some.inj h1).symm
        go_wp2
        go_ret
        exact ⟨wretB HN.out.symm, hbw.trans (bW.mono hbw.size)⟩
    · have HN : Hid (decide (la = lb) = true) := by
        show _ = _
        simp only [decide_eq_true_eq]
        apply List.ext_getElem?
        intro j
        by_cases hj : j < k
        · exact HA.out j hj
        · rw [List.getElem?_eq_none (by omega), List.getElem?_eq_none (by rw [← HL.out]; omega)]
      go_wp2
      go_ret
      exact ⟨wretB HN.out.symm, hbw⟩
set_option maxRecDepth 1000000 in
set_option maxHeartbeats 4000000 in
theorem helds2_other (n m ac bc : Nat) (a b : Option Addr) (w : World) (h : ((n : Int) == (m : Int)) = false) :
    Calls Tryd.prog 21 #[.slice a n ac, .slice b m bc] w fun e w' => e = .returned (.bool false) ∧ Below w.heap.size w w' := by
  go_enter Tryd.func21, Tryd.ntmps21
  go_wp2
  go_ret
  exact ⟨rfl, Below.refl _ _⟩
set_option maxRecDepth 1000000 in
set_option maxHeartbeats 4000000 in
theorem helds2_nil (a b : Option Addr) (ac bc : Nat) (w : World) :
    Calls Tryd.prog 21 #[.slice a 0 ac, .slice b 0 bc] w fun e w' => e = .returned (.bool true) ∧ Below w.heap.size w w' := by
  go_enter Tryd.func21, Tryd.ntmps21
  go_wp2
  refine wp_loop_rounds 1 ?_
  rw [rounds_succ]
  go_wp2
  go_ret
  exact ⟨rfl, Below.refl _ _⟩
theorem helds2_any (va vb : Value) (la lb : List (List Int × Int)) (w : World) (ha : HdL w va la) (hb : HdL w vb lb) (hl : la.length ≤ 1000000) (hsh : ShortH la) :
    Calls Tryd.prog 21 #[va, vb] w fun e w' => e = .returned (.bool (decide (la = lb))) ∧ Below w.heap.size w w' := by
  by_cases hlen : la.length = lb.length
  · rcases ha with ⟨rfl, ao, ac, rfl⟩ | ⟨a, ao, ac, rfl, hlta, hca⟩
    · have hlb : lb = [] := List.eq_nil_of_length_eq_zero (by simpa using hlen.symm)
      subst hlb
      obtain ⟨bo, bc, hvb⟩ := hb.form
      rw [hvb]
      exact helds2_nil ao bo ac bc w
    · rcases hb with ⟨rfl, bo, bc, rfl⟩ | ⟨b, bo, bc, rfl, hltb, hcb⟩
      · have hla : la = [] := List.eq_nil_of_length_eq_zero (by simpa using hlen)
        subst hla
        exact helds2_nil _ bo ac bc w
      · rw [← hlen]
        exact helds2_some la lb a ao ac b bo bc w hlta hltb hlen hl hsh hca hcb
  · obtain ⟨ao, ac, rfl⟩ := ha.form
    obtain ⟨bo, bc, rfl⟩ := hb.form
    rw [show decide (la = lb) = false by simp only [decide_eq_false_iff_not]; intro e; exact hlen (by rw [e])]
    exact helds2_other _ _ _ _ _ _ w (by simp; omega)
end Go.Proofs.YtfconbblnmbnpadDoor
namespace Go.Proofs.YtfconbblnmbnpadDoor
open Go.RowKit

structure HdR (B : Nat) (W : World) (v : Value) (l : List (Value × Int)) (xs : List (List Int × Int)) : Prop where
  own : W.ownsRow B 58 2 v l.length (hdCells l)
  len : l.length = xs.length
  rd : ∀ (i : Nat) x y, l[i]? = some x → xs[i]? = some y → Rd W x.1 y.1 ∧ x.2 = y.2
  ap : ∀ x ∈ l, ∀ g, x.1.ownBlock = some g → g < W.heap.size ∧ v.ownBlock ≠ some g
theorem HdR.nil (B : Nat) (W : World) : HdR B W (.slice none 0 0) [] [] := ⟨World.ownsRow_nil _ _ _ _, rfl, fun i x y h => by simp at h, fun x hx => by cases hx⟩
theorem HdR.hdl {B : Nat} {W : World} {v : Value} {l : List (Value × Int)} {xs : List (List Int × Int)} (h : HdR B W v l xs) : HdL W v xs := by
  have hlt := h.own.lt
  have hcs := @World.ownsRow.cells _ _ _ _ _ _ _ h.own
  rcases h.own.2 with ⟨rfl, h0⟩ | ⟨g, cap, cur, rfl, _, _, hcap, _⟩
  · exact Or.inl ⟨List.eq_nil_of_length_eq_zero (by rw [← h.len]; exact h0), _, _, rfl⟩
  · have hat : ∀ j u, (hdCells l)[j]? = some u → W.cell? ⟨g, j, none⟩ = some u := fun j u hu => by
      have := hcs rfl j u hu
      rwa [Addr.add_lit, Nat.zero_add] at this
    refine Or.inr ⟨g, 0, cap, by rw [h.len], (hlt g rfl).2, fun i y hy => ?_⟩
    have hil : i < l.length := by rw [h.len]; exact (List.getElem?_eq_some_iff.1 hy).1
    have hx : l[i]? = some l[i] := List.getElem?_eq_getElem hil
    obtain ⟨q0, q1⟩ := hdCells_at l i _ hx
    obtain ⟨r0, r1⟩ := h.rd i _ y hx hy
    rw [Nat.zero_add]
    exact ⟨_, hat _ _ q0, by rw [← r1]; exact hat _ _ q1, r0⟩
theorem HdR.all {B : Nat} {W W' : World} {v : Value} {l : List (Value × Int)} {xs : List (List Int × Int)} (h : HdR B W v l xs) (hb : Below W.heap.size W W') : HdR B W' v l xs :=
  ⟨own_below h.own hb (Nat.le_refl _), h.len, fun i x y hx hy => ⟨(h.rd i x y hx hy).1.all hb, (h.rd i x y hx hy).2⟩, fun x hx g hg => ⟨Nat.lt_of_lt_of_le (h.ap x hx g hg).1 hb.size, (h.ap x hx g hg).2⟩⟩
/-- One more. -/
theorem HdR.more {B : Nat} {W w8 : World} {v v' u : Value} {l : List (Value × Int)} {xs : List (List Int × Int)} {y : List Int × Int} (h : HdR B W v l xs) (hu : Rd W u y.1) (hua : ∀ g, u.ownBlock = some g → g < W.heap.size ∧ v.ownBlock ≠ some g) {o : Obj} (hg : (W.alloc o).grownBy w8 v.ownBlock)
    (hown : w8.ownsRow B 58 2 v' (l.length + 1) (hdCells l ++ [u, .int .i64 y.2])) (hnew : ∀ g, v'.ownBlock = some g → v.ownBlock = some g ∨ W.heap.size + 1 ≤ g) : HdR B w8 v' (l ++ [(u, y.2)]) (xs ++ [y]) := by
  have hs2 : (W.alloc o).heap.size = W.heap.size + 1 := by simp
  have hs8 : W.heap.size + 1 ≤ w8.heap.size := by have := hg.size; omega
  have hk : ∀ g, g < W.heap.size → v.ownBlock ≠ some g → w8.heap[g]? = W.heap[g]? := fun g h1 h2 => (hg.block g (by omega) (fun e => h2 e.symm)).trans (Below.heap_alloc _ _ _ h1)
  refine ⟨by rw [List.length_append, hdCells_snoc]; exact hown, by simp [h.len], fun i x z hx hz => ?_, fun x hx g hgx => ?_⟩
  · by_cases hil : i < l.length
    · rw [List.getElem?_append_left hil] at hx
      rw [List.getElem?_append_left (by rw [← h.len]; exact hil)] at hz
      obtain ⟨h1, h2⟩ := h.rd i x z hx hz
      exact ⟨h1.block (fun g hg' he => hk g hg' (h.ap x (List.mem_of_getElem? hx) g he).2) (by omega), h2⟩
    · have hlt := (List.getElem?_eq_some_iff.1 hx).1
      rw [List.length_append, List.length_singleton] at hlt
      obtain rfl : i = l.length := by omega
      rw [List.getElem?_append_right (Nat.le_refl _), Nat.sub_self] at hx
      rw [List.getElem?_append_right (by rw [h.len]; exact Nat.le_refl _), h.len, Nat.sub_self] at hz
      simp only [List.getElem?_cons_zero, Option.some.injEq] at hx hz
      subst hx
      subst hz
      exact ⟨hu.block (fun g hg' he => hk g hg' (hua g he).2) (by omega), rfl⟩
  · have hq : g < W.heap.size ∧ v.ownBlock ≠ some g := by
      rcases List.mem_append.1 hx with h1 | h1
      · exact h.ap x h1 g hgx
      · rw [List.mem_singleton] at h1
        subst h1
        exact hua g hgx
    refine ⟨by omega, fun e => ?_⟩
    rcases hnew g e with h5 | h5
    · exact hq.2 h5
    · omega
end Go.Proofs.YtfconbblnmbnpadDoor
namespace Go.Proofs.YtfconbblnmbnpadDoor
open Go.RowKit

def KerPoke {G : World → Prop} (C : KerC G) : Prop := ∀ {w0 W p vc vs vw k kb F} (r c n : Int), C.K w0 W p vc vs vw k kb F → KOk p k → plchk p = 0 → Calls Tryd.prog 20 #[.pointer (some ⟨kb, 0, none⟩), .int .i64 r, .int .i64 c, .int .i64 n] W fun e w' => e = .returned (wErr (pokeN k r c n)) ∧ ∃ F', C.K w0 w' p vc vs vw (pokeK k r c n) kb F' ∧ KTouch F W w' ∧ ∀ g ∈ F', g ∈ F ∨ W.heap.size ≤ g
end Go.Proofs.YtfconbblnmbnpadDoor
namespace Go.Proofs.YtfconbblnmbnpadDoor
open Go.RowKit

set_option maxRecDepth 100000 in
set_option maxHeartbeats 4000000 in
theorem gpoke_any (p : PD) (k : KD) (kb base : Nat) (a : GW) (r c n : Int) (w : World) (h : GK w base p k kb a) :
    Calls Tryd.prog 20 #[.pointer (some ⟨kb, 0, none⟩), .int .i64 r, .int .i64 c, .int .i64 n] w fun e w' => e = .returned (wErr (pokeN k r c n)) ∧ GK w' base p (pokeK k r c n) kb a ∧ KTouch (a.F kb) w w' := by
  have c3 := h.c3
  have H : Hid (GK w base p k kb a) := h
  clear h
  go_enter Tryd.func20, Tryd.ntmps20
  go_upto_region 1 with fail
  go_cut [26] from 9 to 25 (fun s26 wx => s26 = .bool (pokeB k r c n) ∧ wx = w)
  case first =>
    by_cases h0 : 0 ≤ r ∧ r < (k.rooms.length : Int)
    · by_cases h1 : 0 ≤ c ∧ c < 6
      · have HX : Hid (pokeB k r c n = !(decide (0 ≤ n) && decide (n < 1000))) := by
          show _ = _
          unfold pokeB
          have e1 : decide (r < 0) = false := decide_eq_false (by omega)
          have e2 : decide ((k.rooms.length : Int) ≤ r) = false := decide_eq_false (by omega)
          have e3 : decide (c < 0) = false := decide_eq_false (by omega)
          have e4 : decide (5 < c) = false := decide_eq_false (by omega)
          simp only [e1, e2, e3, e4, Bool.false_or]
          by_cases e5 : n < 0
          · simp [e5] <;> omega
          · by_cases e6 : 999 < n
            · simp [e6] <;> omega
            · simp [e5, e6] <;> omega
        have b0 : (decide (0 ≤ r) && decide (r < (k.rooms.length : Int))) = true := by simp [h0.1, h0.2]
        have b1 : (decide (0 ≤ c) && decide (c < 6)) = true := by simp [h1.1, h1.2]
        go_wp2_with (go_at_call 35; refine (kbelow_any _ _ _).mono ?_; rintro e w1 ⟨rfl, hw1⟩; subst hw1; first | rw [b0] | rw [b1] | skip)
        go_meet
        case rel => exact ⟨by rw [HX.out, Bool.not_and], rfl⟩
      · have HX : Hid (pokeB k r c n = true) := by
          show _ = _
          unfold pokeB
          by_cases e3 : c < 0
          · simp [e3]
          · have e4 : 5 < c := by omega
            simp [e4]
        have b0 : (decide (0 ≤ r) && decide (r < (k.rooms.length : Int))) = true := by simp [h0.1, h0.2]
        have b1 : (decide (0 ≤ c) && decide (c < 6)) = false := by
          rw [← Bool.decide_and]
          exact decide_eq_false h1
        go_wp2_with (go_at_call 35; refine (kbelow_any _ _ _).mono ?_; rintro e w1 ⟨rfl, hw1⟩; subst hw1; first | rw [b0] | rw [b1] | skip)
        go_meet
        case rel => exact ⟨by rw [HX.out], rfl⟩
    · have HX : Hid (pokeB k r c n = true) := by
        show _ = _
        unfold pokeB
        by_cases e1 : r < 0
        · simp [e1]
        · have e2 : (k.rooms.length : Int) ≤ r := by omega
          simp [e2]
      go_wp2_with (go_at_call 35; refine (kbelow_no _ _ _ h0).mono ?_; rintro e w1 ⟨rfl, hw1⟩; subst hw1)
      go_meet
      case rel => exact ⟨by rw [HX.out], rfl⟩
  case rest =>
  obtain ⟨rfl, hwc⟩ := hcut
  rw [hwc]
  clear hwc
  cases hb : pokeB k r c n with
  | true =>
    go_wp2
    go_ret
    exact ⟨by unfold pokeN; rw [hb]; rfl, by unfold pokeK; rw [hb, if_pos rfl]; exact H.out, KTouch.refl _ _⟩
  | false =>
    obtain ⟨h0, h1, h2, h3, h4, h5⟩ := pokeB_false hb
    obtain ⟨rn, rfl⟩ : ∃ m : Nat, r = m := ⟨r.toNat, by omega⟩
    obtain ⟨cn, rfl⟩ : ∃ m : Nat, c = m := ⟨c.toNat, by omega⟩
    have hrl : rn < k.rooms.length := by omega
    have hcl : cn ≤ 5 := by omega
    have hc6 : (cn : Int) < 6 := by omega
    have hs : k.rooms[rn]? = some k.rooms[rn] := List.getElem?_eq_getElem hrl
    have hst := H.out.rooms rn _ hs
    have hcell : ∃ v, w.cell? ⟨a.rb, rn * 8 + 1 + cn, none⟩ = some v := by
      obtain ⟨q0, q1, q2, q3, q4, q5, q6, q7⟩ := hst
      match cn, hcl with
      | 0, _ => exact ⟨_, q1⟩
      | 1, _ => exact ⟨_, q2⟩
      | 2, _ => exact ⟨_, q3⟩
      | 3, _ => exact ⟨_, q4⟩
      | 4, _ => exact ⟨_, q5⟩
      | 5, _ => exact ⟨_, q6⟩
    obtain ⟨v0, hv0⟩ := hcell
    have hfz := H.out.rf (rn * 8 + 1 + cn)
    have HK : Hid (pokeK k rn cn n = ⟨k.rooms.set rn (pokeS k.rooms[rn] cn n), k.lines, k.time⟩) := by
      show _ = _
      unfold pokeK
      rw [hb, if_neg (by decide)]
      simp [List.getD, hs]
    clear hst hs
    have HB : Hid (pokeB k rn cn n = false) := hb
    clear hb
    go_wp2
    go_ret
    refine ⟨by unfold pokeN; rw [HB.out]; rfl, ?_, KTouch.set w (by simp [GW.F]) _ _⟩
    rw [HK.out]
    exact H.out.poke (List.getElem?_eq_getElem hrl) hcl n
end Go.Proofs.YtfconbblnmbnpadDoor
namespace Go.Proofs.YtfconbblnmbnpadDoor
open Go.RowKit

theorem gker_poke {G : World → Prop} (hG : ∀ w, G w → Forms w) (hall : ∀ w w', G w → Below w.heap.size w w' → G w') : KerPoke (gker hG hall) := fun {w0 W p _ _ _ k kb F} r c n ⟨a, h, hF, hb⟩ _ _ => by
  subst hF
  refine (gpoke_any p k kb _ a r c n W h).mono ?_
  rintro e w' ⟨rfl, h1, h2⟩
  exact ⟨rfl, _, ⟨a, h1, rfl, hb.trans (h2.below h.ge hb.size)⟩, h2, fun g hg => Or.inl hg⟩
end Go.Proofs.YtfconbblnmbnpadDoor
namespace Go.Proofs.YtfconbblnmbnpadDoor
open Go.RowKit

/-- States in a row that can be read. -/
def StL (w : World) (v : Value) (l : List St) : Prop :=
  (l = [] ∧ ∃ ao cap, v = .slice ao 0 cap) ∨ ∃ b off cap, v = .slice (some ⟨b, off, none⟩) l.length cap ∧ l.length ≤ cap ∧ b < w.heap.size ∧ ∀ (i : Nat) s, l[i]? = some s → StC w b (off + i * 8) s
theorem StL.form {w : World} {v : Value} {l : List St} (h : StL w v l) : ∃ ao cap, v = .slice ao l.length cap := by
  rcases h with ⟨rfl, ao, cap, rfl⟩ | ⟨b, off, cap, rfl, _⟩
  · exact ⟨ao, cap, rfl⟩
  · exact ⟨_, cap, rfl⟩
theorem StL.all {w w' : World} {v : Value} {l : List St} (h : StL w v l) (hb : Below w.heap.size w w') : StL w' v l := by
  rcases h with h | ⟨b, off, cap, rfl, hcap, hlt, hc⟩
  · exact Or.inl h
  · exact Or.inr ⟨b, off, cap, rfl, hcap, Nat.lt_of_lt_of_le hlt hb.size, fun i s hi => (hc i s hi).block (hb.block b hlt)⟩
theorem StL.own {w : World} {base : Nat} {v : Value} {l : List St} (h : w.ownsRow base 48 8 v l.length (stCells l)) : StL w v l := by
  have hl := h.lt
  have hcs := @World.ownsRow.cells _ _ _ _ _ _ _ h
  rcases h.2 with ⟨rfl, h0⟩ | ⟨g, cap, cur, rfl, _, _, hcap, _⟩
  · exact Or.inl ⟨List.eq_nil_of_length_eq_zero h0, _, _, rfl⟩
  · have hat : ∀ j u, (stCells l)[j]? = some u → w.cell? ⟨g, j, none⟩ = some u := fun j u hu => by
      have := hcs rfl j u hu
      rwa [Addr.add_lit, Nat.zero_add] at this
    refine Or.inr ⟨g, 0, cap, rfl, hcap, (hl g rfl).2, fun i s hs => ?_⟩
    obtain ⟨q0, q1, q2, q3, q4, q5, q6, q7⟩ := stCells_at l i s hs
    rw [Nat.zero_add]
    exact ⟨hat _ _ q0, hat _ _ q1, hat _ _ q2, hat _ _ q3, hat _ _ q4, hat _ _ q5, hat _ _ q6, hat _ _ q7⟩
end Go.Proofs.YtfconbblnmbnpadDoor
namespace Go.Proofs.YtfconbblnmbnpadDoor
open Go.RowKit

/-- Run: the states of a room of a new kernel. -/
def SgtRun (G : World → Prop) : Prop := ∀ (p : PD) (vc vs vw : Value) (n r : Int) (W : World), G W → Pln W vc vs vw p → Calls Tryd.prog 19 #[plV vc p.ticks vs vw, .int .i64 n, .int .i64 r] W fun e w' => ∃ v, e = .returned (.tuple #[v, wErr (runE p n r)]) ∧ StL w' v (if runE p n r = 0 then statesK p n.toNat r.toNat else []) ∧ Below W.heap.size W w'
end Go.Proofs.YtfconbblnmbnpadDoor
namespace Go.Proofs.YtfconbblnmbnpadDoor
open Go.RowKit

/-- Of: what a room sees of a kernel of a plan. -/
def SgtOf {G : World → Prop} (C : KerC G) : Prop := ∀ {w0 W p vc vs vw k kb F} (ic is iw : Value) (r : Int), G w0 → C.K w0 W p vc vs vw k kb F → KOk p k → plchk p = 0 → Pln W ic is iw p → Calls Tryd.prog 18 #[.pointer (some ⟨kb, 0, none⟩), plV ic p.ticks is iw, .int .i64 r] W fun e w' => ∃ v, e = .returned (.tuple #[stA (roomK k r), v, wErr (errB (noRoom k r))]) ∧ HdL w' v (if noRoom k r = true then [] else seesK k r) ∧ Below W.heap.size W w'
end Go.Proofs.YtfconbblnmbnpadDoor
namespace Go.Proofs.YtfconbblnmbnpadDoor
open Go.RowKit

/-- The second one is poked. -/
theorem kk_poke {G : World → Prop} {C : KerC G} (CP : KerPoke C) {w1 W : World} {p : PD} {vc vs vw : Value} {k m : KD} {kb mb : Nat} {F H : List Nat} (hp : plchk p = 0) (r c n : Int) (h : KK C w1 W p vc vs vw k m kb mb F H) :
    Calls Tryd.prog 20 #[.pointer (some ⟨mb, 0, none⟩), .int .i64 r, .int .i64 c, .int .i64 n] W fun e w' => e = .returned (wErr (pokeN m r c n)) ∧ ∃ H', KK C w1 w' p vc vs vw k (pokeK m r c n) kb mb F H' ∧ KTouch H W w' ∧ ∀ g ∈ F ++ H', g ∈ F ++ H ∨ W.heap.size ≤ g := by
  refine (CP r c n h.M h.ok' hp).mono ?_
  rintro e w' ⟨rfl, H', hM', tk, hH'⟩
  refine ⟨rfl, H', ⟨C.frame h.K tk (fun x hx => ⟨fun hm => h.ap x hm hx, (C.ge h.M x hx).1⟩), hM', fun g hg hm => ?_, h.ok, poke_ok h.ok' r c n⟩, tk, fun g hg => ?_⟩
  · rcases hH' g hm with h1 | h1
    · exact h.ap g hg h1
    · have := (C.ge h.K g hg).2
      omega
  · rcases List.mem_append.1 hg with h1 | h1
    · exact Or.inl (List.mem_append.2 (Or.inl h1))
    · rcases hH' g h1 with h2 | h2
      · exact Or.inl (List.mem_append.2 (Or.inr h2))
      · exact Or.inr h2
/-- The poked one: another room is seen the same. -/
theorem poke_other {p : PD} {o : Int} {c n : Int} {r : Nat} (hr : o ≠ (r : Int)) (ho : pokeB (newK p) o c n = false) : (pokeK (newK p) o c n).rooms[r]? = (newK p).rooms[r]? ∧ (pokeK (newK p) o c n).lines = (newK p).lines ∧ (pokeK (newK p) o c n).time = (newK p).time := by
  obtain ⟨h0, h1, _⟩ := pokeB_false ho
  unfold pokeK
  rw [ho, if_neg (by decide)]
  refine ⟨?_, rfl, rfl⟩
  show ((newK p).rooms.set o.toNat _)[r]? = _
  rw [List.getElem?_set_ne (by omega)]
end Go.Proofs.YtfconbblnmbnpadDoor
namespace Go.Proofs.YtfconbblnmbnpadDoor
open Go.RowKit

theorem sees_takeG (ls : List LnD) (r : Int) (n : Nat) (l : LnD) (h : ls[n]? = some l) : (((ls.take (n + 1)).filter (atR r)).map fun l => (l.xs, l.ls)) = (((ls.take n).filter (atR r)).map fun l => (l.xs, l.ls)) ++ (if atR r l = true then [(l.xs, l.ls)] else []) := by
  rw [List.take_add_one, h, Option.toList_some, List.filter_append, List.map_append]
  cases hb : atR r l <;> simp [hb]
/-- What is seen of the first wires. -/
def seesN (k : KD) (r : Int) (n : Nat) : List (List Int × Int) := ((k.lines.take n).filter (atR r)).map fun l => (l.xs, l.ls)
theorem seesN_len (k : KD) (r : Int) (n : Nat) : (seesN k r n).length ≤ n := by
  unfold seesN
  rw [List.length_map]
  exact Nat.le_trans (List.length_filter_le _ _) (by rw [List.length_take]; omega)
/-- A row of what wires hold, all of it laid since. -/
def HdF (B : Nat) (w : World) (v : Value) (xs : List (List Int × Int)) : Prop := ∃ l, HdR B w v l xs ∧ ∀ x ∈ l, ∀ g, x.1.ownBlock = some g → B ≤ g
/-- What is written lies ahead of it. -/
theorem HdF.touch {B : Nat} {W W' : World} {v : Value} {xs : List (List Int × Int)} (h : HdF B W v xs) {M : List Nat} (ht : KTouch M W W') (hM : ∀ m ∈ M, m < B) : HdF B W' v xs := by
  obtain ⟨l, h, hf⟩ := h
  refine ⟨l, ⟨own_block h.own (fun g hg => ht.block g (h.own.lt g hg).2 (fun hm => ?_)), h.len, fun i x y hx hy => ?_, fun x hx g hg => ?_⟩, hf⟩
  · have := hM g hm
    have := (h.own.lt g hg).1
    omega
  · obtain ⟨h1, h2⟩ := h.rd i x y hx hy
    refine ⟨h1.block (fun g hg he => ht.block g hg (fun hm => ?_)) ht.size, h2⟩
    have := hM g hm
    have := hf x (List.mem_of_getElem? hx) g he
    omega
  · obtain ⟨h2, h3⟩ := h.ap x hx g hg
    exact ⟨Nat.lt_of_lt_of_le h2 ht.size, h3⟩
set_option maxRecDepth 100000 in
set_option maxHeartbeats 8000000 in
theorem saround_any {G : World → Prop} (C : KerC G) (CW : KerWire C) {w0 W : World} {p : PD} {vc vs vw : Value} {k : KD} {kb : Nat} {F : List Nat} (iw : Value) (r : Int) (h : C.K w0 W p vc vs vw k kb F) (hk : KOk p k) (hp : plchk p = 0) (hW : Wrs W iw p.wires) :
    Calls Tryd.prog 39 #[.pointer (some ⟨kb, 0, none⟩), iw, .int .i64 r] W fun e w' => ∃ ao m cap, e = .returned (.tuple #[.slice ao m cap, .nilIface]) ∧ HdF W.heap.size w' (.slice ao m cap) (seesK k r) ∧ Below W.heap.size W w' := by
  obtain ⟨jj, hj, hy0, hy1, hy2⟩ := info_parts infoHd
  obtain ⟨wa, wcap, rfl⟩ := hW.form
  have H : Hid (∀ wr, Below W.heap.size W wr → C.K w0 wr p vc vs vw k kb F) := fun wr hb => C.frame h (KTouch.of (M := []) hb) (by simp)
  have HW : Hid (Wrs W (.slice wa p.wires.length wcap) p.wires) := hW
  have hw12 : p.wires.length ≤ 12 := (wschk_ok (plchk_zero hp).2.2.2.1).1
  have hll := hk.ll
  clear h hW
  go_enter Tryd.func39, Tryd.ntmps39
  go_wp2
  go_loopw [8, 15] (fun v i wr => ∃ (n : Nat) (l : List (Value × Int)), n ≤ p.wires.length ∧ i = .int .i64 n ∧ HdR W.heap.size wr v l (seesN k r n) ∧ (∀ x ∈ l, ∀ g, x.1.ownBlock = some g → W.heap.size ≤ g) ∧ Below W.heap.size W wr) (fun _ i _ => p.wires.length - (intOf i).toNat)
  case atStart => exact ⟨0, [], Nat.zero_le _, rfl, HdR.nil _ _, fun x hx => (by cases hx), Below.refl _ _⟩
  case round =>
    obtain ⟨n, l, hn, rfl, hrow, hfr0, hbw⟩ := hrel
    have HF0 : Hid (∀ x ∈ l, ∀ g, x.1.ownBlock = some g → W.heap.size ≤ g) := hfr0
    clear hfr0
    obtain ⟨vo, vn, vk, rfl⟩ := own_form hrow.own
    have hsw := hbw.size
    by_cases hnl : n < p.wires.length
    · have hni : (n : Int) < (p.wires.length : Int) := by omega
      obtain ⟨xb, xo, f, t, kd, d, rfl, hxlt, hx, c0, c1, c2, c3⟩ := HW.out.at hnl
      replace c0 := (hbw.cell (p := ⟨xb, _, none⟩) hxlt).trans c0
      replace c1 := (hbw.cell (p := ⟨xb, _, none⟩) hxlt).trans c1
      replace c2 := (hbw.cell (p := ⟨xb, _, none⟩) hxlt).trans c2
      replace c3 := (hbw.cell (p := ⟨xb, _, none⟩) hxlt).trans c3
      obtain ⟨ln, hl⟩ : ∃ ln, k.lines[n]? = some ln := ⟨_, List.getElem?_eq_getElem (by rw [hll]; exact hnl)⟩
      have hlw := (hk.lines n ln _ hl hx).w
      have HT := sees_takeG k.lines r n ln hl
      have hat : atR r ln = (decide (f = r) || decide (t = r)) := by
        unfold atR
        rw [hlw]
      rw [hat] at HT
      have HRw : Hid (HdR W.heap.size wr (.slice vo vn vk) l (seesN k r n)) := hrow
      have hx8 := World.new_ne wr ⟨xb, _, none⟩ c0
      by_cases hor : f = r ∨ (f ≠ r ∧ t = r)
      · have HX : Hid (seesN k r (n + 1) = seesN k r n ++ [(ln.xs, ln.ls)]) := by
          show _ = _
          unfold seesN
          rw [HT, if_pos]
          rcases hor with e | ⟨_, e⟩ <;> simp [e]
        have hl12 : l.length + 1 ≤ 12 := by
          have h1 := hrow.len
          have h2 := seesN_len k r n
          omega
        have hno : noLine k n = false := by
          unfold noLine
          rw [hll, Bool.or_eq_false_iff]
          exact ⟨decide_eq_false (by omega), decide_eq_false (by omega)⟩
        have hlk : lineK k n = ln := by
          unfold lineK
          rw [if_neg (by rw [hno]; decide), Int.toNat_natCast]
          simp [List.getD, hl]
        have HC : Hid (∀ WW, Below wr.heap.size wr WW → Calls Tryd.prog 15 #[.pointer (some ⟨kb, 0, none⟩), .int .i64 n] WW fun e w' => ∃ ao m cu, e = .returned (.tuple #[.agg #[.slice ao m cu, .int .i64 ln.ls], .nilIface]) ∧ Rd w' (.slice ao m cu) ln.xs ∧ (∀ g, (Value.slice ao m cu).ownBlock = some g → WW.heap.size ≤ g ∧ g < w'.heap.size) ∧ Below WW.heap.size WW w') := fun WW hb => by
          have := CW n (H.out WW (hbw.trans (hb.mono hsw))) hk hp
          rw [hlk, hno] at this
          refine this.mono ?_
          rintro e w' ⟨u, rfl, h1, h2, h3⟩
          have hf : ∃ ao m cu, u = .slice ao m cu := by
            rcases h1 with ⟨_, ao, cu, h4⟩ | ⟨g, off, cu, h4, _⟩
            · exact ⟨_, _, _, h4⟩
            · exact ⟨_, _, _, h4⟩
          obtain ⟨ao, m, cu, rfl⟩ := hf
          exact ⟨ao, m, cu, rfl, h1, h2, h3⟩
        clear HT hrow hat hl hx hlw hno hlk
        go_upto_region 5 with fail
        have hA : Below wr.heap.size wr (wr.alloc (.cells #[.int .i64 f, .int .i64 t, .int .i64 kd, .int .i64 d] 23)) := (Below.refl _ _).alloc (Nat.le_refl _) _
        go_cut [15, 29] from 15 to 43 (fun s15 s29 wx => s15 = .int .i64 n ∧ s29 = .bool false ∧ Below wr.heap.size wr wx)
        case first =>
          rcases hor with e | ⟨e1, e2⟩
          · have hq : (f != r) = false := by simp [e]
            go_wp2
            go_meet
            case rel => exact ⟨rfl, rfl, (Below.refl _ _).alloc (Nat.le_refl _) _⟩
          · have hq : (f != r) = true := by simpa using e1
            have hq2 : (t != r) = false := by simp [e2]
            go_wp2
            go_meet
            case rel => exact ⟨rfl, rfl, (Below.refl _ _).alloc (Nat.le_refl _) _⟩
        case rest =>
          clear hA hor c0 c1 c2 c3
          obtain ⟨rfl, rfl, hbc⟩ := hcut
          go_upto_region 9 with (go_at_call 15; refine (HC.out _ hbc).mono ?_; rintro e w2 ⟨ao, m, cu, rfl, hrd, hfr, b2⟩)
          have hB1 : Below wr.heap.size wr (w2.alloc (.cells #[.slice ao m cu, .int .i64 ln.ls] 58)) := (hbc.trans (b2.mono hbc.size)).alloc (Nat.le_trans hbc.size b2.size) _
          have hrow3 := HRw.out.all hB1
          have own3 := hrow3.own
          have hs2 := b2.size
          have hsc := hbc.size
          have HFin : Hid (∀ (v1 : Value) (w8 : World), w8.ownsRow W.heap.size 58 2 v1 (l.length + 1) (hdCells l ++ [.slice ao m cu, .int .i64 ln.ls]) → ((w2.alloc (.cells #[.slice ao m cu, .int .i64 ln.ls] 58)).alloc (.cells #[.slice ao m cu, .int .i64 ln.ls] 58)).grownBy w8 (Value.slice vo vn vk).ownBlock → (∀ g, v1.ownBlock = some g → (Value.slice vo vn vk).ownBlock = some g ∨ w2.heap.size + 2 ≤ g) → HdR W.heap.size w8 v1 (l ++ [(.slice ao m cu, ln.ls)]) (seesN k r (n + 1)) ∧ Below W.heap.size W w8) := fun v1 w8 o1 o2 o3 => by
            rw [HX.out]
            have hrd' : Rd (w2.alloc (.cells #[.slice ao m cu, .int .i64 ln.ls] 58)) (.slice ao m cu) ln.xs := hrd.all ((Below.refl _ _).alloc (Nat.le_refl _) _)
            refine ⟨hrow3.more (y := (ln.xs, ln.ls)) hrd' (fun g hg => ⟨?_, fun e => ?_⟩) o2 o1 (fun g hg => ?_), ?_⟩
            · have := (hfr g hg).2
              simp
              omega
            · have := (HRw.out.own.lt g e).2
              have := (hfr g hg).1
              omega
            · have := o3 g hg
              simpa using this
            · exact ((hbw.trans (hB1.mono hsw)).alloc (by simp; omega) _).grown o2 (by simp; omega) (fun j hj => (HRw.out.own.lt j hj).1)
          have HF1 : Hid (∀ x ∈ l ++ [(Value.slice ao m cu, ln.ls)], ∀ g, x.1.ownBlock = some g → W.heap.size ≤ g) := fun x hx g hg => by
            rcases List.mem_append.1 hx with h1 | h1
            · exact HF0.out x h1 g hg
            · rw [List.mem_singleton] at h1
              subst h1
              have := (hfr g hg).1
              omega
          clear hB1 hrow3 hrd hfr b2
          go_wp2_with (at_builtin; refine wpList_append_at _ rfl _ _ 55 rfl W.heap.size 58 jj _ 2 32 Tryd.underlying55 hj hy0 hy1 hy2 rfl (by decide) _ _ _ rfl (own3.alloc _) ⟨w2.heap.size + 1, 0, none⟩ 1 1 [.slice ao m cu, .int .i64 ln.ls] rfl rfl ?c1A ?c2A ?c3A ?c4A ?c5A ?_)
          case c1A => exact hd_new (by simp) _ _ _
          case c2A => intro u hu; simp at hu; rcases hu with rfl | rfl <;> rfl
          case c3A => unfold maxLen; omega
          case c4A => omega
          case c5A => simp; omega
          intro v1 w8 own8 hg8 hnw8
          have HQ := HFin.out v1 w8 own8 hg8 (fun g hg => by have := hnw8 g hg; simpa using this)
          obtain ⟨g8, cap8, rfl⟩ := own_succ own8
          have HQ1 : Hid (HdR W.heap.size w8 (.slice (some ⟨g8, 0, none⟩) (l.length + 1) cap8) (l ++ [(.slice ao m cu, ln.ls)]) (seesN k r (n + 1))) := HQ.1
          have HQ2 : Hid (Below W.heap.size W w8) := HQ.2
          clear own8 hg8 hnw8 own3 HQ HFin
          go_wp2
          go_roundw
          case rel => exact ⟨n + 1, _, by omega, by go_num, HQ1.out, HF1.out, HQ2.out⟩
          case measure => simp [intOf]; omega
      · have hf1 : f ≠ r := fun e => hor (Or.inl e)
        have ht1 : t ≠ r := fun e => hor (Or.inr ⟨hf1, e⟩)
        have HX : Hid (seesN k r (n + 1) = seesN k r n) := by
          show _ = _
          unfold seesN
          rw [HT, if_neg (by simp [hf1, ht1]), List.append_nil]
        have hq1 : (f != r) = true := by simpa using hf1
        have hq2 : (t != r) = true := by simpa using ht1
        clear HT hrow hat hl hx hlw hor
        go_wp2
        go_roundw
        case rel => exact ⟨n + 1, l, by omega, by go_num, by rw [HX.out]; exact HRw.out.all ((Below.refl _ _).alloc (Nat.le_refl _) _), HF0.out, hbw.alloc hsw _⟩
        case measure => simp [intOf]; omega
    · obtain rfl : n = p.wires.length := by omega
      have hq : decide ((p.wires.length : Int) < (p.wires.length : Int)) = false := decide_eq_false (by omega)
      have hq' : decide (p.wires.length < p.wires.length) = false := decide_eq_false (by omega)
      have HRw : Hid (HdF W.heap.size wr (.slice vo vn vk) (seesK k r)) := by
        refine ⟨l, ?_, HF0.out⟩
        have := hrow
        unfold seesN at this
        rw [← hll, List.take_length] at this
        exact this
      clear hrow
      go_wp2
      go_ret2
      exact ⟨_, _, _, rfl, HRw.out, hbw⟩
end Go.Proofs.YtfconbblnmbnpadDoor
