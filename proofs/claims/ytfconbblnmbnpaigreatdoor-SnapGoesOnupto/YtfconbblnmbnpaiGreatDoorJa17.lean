/-
  ToyS, EvEq, KKer, Trod: joined into one text.
-/
import Derived.Test.YtfconbblnmbnpaiGreatDoorJa2
import Derived.Test.YtfconbblnmbnpaiGreatDoorJa1
import Derived.Laws.StructEq
import Derived.Test.YtfconbblnmbnpaiGreatDoorJa5
namespace Go.Proofs.YtfconbblnmbnpaiGreatDoor
open Go.RowKit

/-- The law's own: a room that rests, all alone. -/
def toyS : PD := ⟨[[(10, 0, 0)]], 1, [], []⟩
theorem toyS_ok : plchk toyS = 0 := by decide +kernel
theorem toyS_pln (W : World) (n : Nat) (hn : n = W.heap.size) : Pln ((W.alloc (.cells #[.int .i64 10, .int .i64 0, .int .i64 0] 28)).alloc (.cells #[.slice (some ⟨n, 0, none⟩) 1 1] 29)) (.slice (some ⟨n + 1, 0, none⟩) 1 1) (.slice none 0 0) (.slice none 0 0) toyS := by
  subst hn
  refine ⟨Or.inr ⟨_, 0, 1, rfl, Nat.le_refl _, by simp, fun i c hi => ?_⟩, Or.inl ⟨rfl, _, _, rfl⟩, Or.inl ⟨rfl, _, _, rfl⟩⟩
  match i, hi with
  | 0, hi =>
    simp [toyS] at hi
    subst hi
    refine ⟨.slice (some ⟨W.heap.size, 0, none⟩) 1 1, by simp [go_sem], Or.inr ⟨W.heap.size, 0, 1, rfl, by simp; omega, fun j o ho => ?_⟩⟩
    match j, ho with
    | 0, ho => simp at ho; subst ho; simp [go_sem]
    | j + 1, ho => simp at ho
  | i + 1, hi => simp [toyS] at hi
end Go.Proofs.YtfconbblnmbnpaiGreatDoor
namespace Go.Proofs.YtfconbblnmbnpaiGreatDoor
open Go.RowKit

theorem fieldsEv : Tryz.prog.underlying 39 = some (.struct (Tryz.prog.fieldsOf 39)) := by kernel_rfl
theorem stoodEv : Tryz.prog.stoodInHeld 39 = false := by kernel_rfl
theorem fieldsEvIs : Tryz.prog.fieldsOf 39 = #[{ name := "Tick", type := 3, offset := 0, embedded := false, tag := "", pkgPath := "", byteOffset := 0 }, { name := "Room", type := 3, offset := 1, embedded := false, tag := "", pkgPath := "", byteOffset := 8 }, { name := "At", type := 3, offset := 2, embedded := false, tag := "", pkgPath := "", byteOffset := 16 }, { name := "What", type := 3, offset := 3, embedded := false, tag := "", pkgPath := "", byteOffset := 24 }] := by kernel_rfl
theorem eqIn_ev (a b c d : Int) (w : World) : (Op.equalIn 10000 39 (.agg #[.int .i64 a, .int .i64 b, .int .i64 c, .int .i64 d]) (.agg #[.int .i64 a, .int .i64 b, .int .i64 c, .int .i64 d])).run Tryz.prog w = .ok true w := by
  rw [run_equalIn_agg _ _ _ _ _ fieldsEv stoodEv, fieldsEvIs]
  simp [go_sem, Tryz.underlying3]
theorem eql_ev (a b c d : Int) (w : World) : (binOp .eql 39 (.agg #[.int .i64 a, .int .i64 b, .int .i64 c, .int .i64 d]) (.agg #[.int .i64 a, .int .i64 b, .int .i64 c, .int .i64 d])).run Tryz.prog w = .ok (.bool true) w := by
  rw [run_eql_struct, eqIn_ev]
  rfl
theorem neq_ev (a b c d : Int) (w : World) : (binOp .neq 39 (.agg #[.int .i64 a, .int .i64 b, .int .i64 c, .int .i64 d]) (.agg #[.int .i64 a, .int .i64 b, .int .i64 c, .int .i64 d])).run Tryz.prog w = .ok (.bool false) w := by
  rw [run_neq_struct, eqIn_ev]
  rfl
theorem guardEv : Tryz.prog.eqGuardType Tryz.prog.depth 39 = false := by kernel_rfl
end Go.Proofs.YtfconbblnmbnpaiGreatDoor
namespace Go.Proofs.YtfconbblnmbnpaiGreatDoor
open Go.RowKit

/-- Neither has what the other one has. -/
structure KK {G : World → Prop} (C : KerC G) (w1 wr : World) (p : PD) (vc vs vw : Value) (k m : KD) (kb mb : Nat) (F H : List Nat) : Prop where
  K : C.K w1 wr p vc vs vw k kb F
  M : C.K w1 wr p vc vs vw m mb H
  ap : ∀ g ∈ F, g ∉ H
  ok : KOk p k
  ok' : KOk p m
theorem KK.lt {G : World → Prop} {C : KerC G} {w1 wr : World} {p : PD} {vc vs vw : Value} {k m : KD} {kb mb : Nat} {F H : List Nat} (h : KK C w1 wr p vc vs vw k m kb mb F H) : ∀ g ∈ F ++ H, w1.heap.size ≤ g ∧ g < wr.heap.size := fun g hg => by
  rcases List.mem_append.1 hg with h1 | h1
  · exact C.ge h.K g h1
  · exact C.ge h.M g h1
theorem KK.all {G : World → Prop} {C : KerC G} {w1 wr w' : World} {p : PD} {vc vs vw : Value} {k m : KD} {kb mb : Nat} {F H : List Nat} (h : KK C w1 wr p vc vs vw k m kb mb F H) (hb : Below wr.heap.size wr w') : KK C w1 w' p vc vs vw k m kb mb F H :=
  ⟨C.frame h.K (KTouch.of (M := []) hb) (by simp), C.frame h.M (KTouch.of (M := []) hb) (by simp), h.ap, h.ok, h.ok'⟩
/-- Blocks of the caller's own are written. -/
theorem KK.set {G : World → Prop} {C : KerC G} {w1 wr w' : World} {p : PD} {vc vs vw : Value} {k m : KD} {kb mb : Nat} {F H : List Nat} (h : KK C w1 wr p vc vs vw k m kb mb F H) {b : Nat} (ht : KTouch [b] wr w') (hb : b ∉ F ++ H) (hw : w1.heap.size ≤ b) : KK C w1 w' p vc vs vw k m kb mb F H := by
  have h1 : b ∉ F := fun e => hb (List.mem_append.2 (Or.inl e))
  have h2 : b ∉ H := fun e => hb (List.mem_append.2 (Or.inr e))
  refine ⟨C.frame h.K ht (fun x hx => ?_), C.frame h.M ht (fun x hx => ?_), h.ap, h.ok, h.ok'⟩
  · rw [List.mem_singleton] at hx
    subst hx
    exact ⟨h1, hw⟩
  · rw [List.mem_singleton] at hx
    subst hx
    exact ⟨h2, hw⟩
/-- What came of a call on both. -/
structure KWent {G : World → Prop} (C : KerC G) (w1 W w' : World) (p : PD) (vc vs vw : Value) (k m : KD) (kb mb : Nat) (F H F' H' : List Nat) : Prop where
  kk : KK C w1 w' p vc vs vw k m kb mb F' H'
  touch : KTouch (F ++ H) W w'
  new : ∀ g ∈ F' ++ H', g ∈ F ++ H ∨ W.heap.size ≤ g
theorem KWent.keep {G : World → Prop} {C : KerC G} {w1 W w' : World} {p : PD} {vc vs vw : Value} {k m : KD} {kb mb : Nat} {F H F' H' : List Nat} (h : KWent C w1 W w' p vc vs vw k m kb mb F H F' H') {b : Nat} (hb : b < W.heap.size) (hn : b ∉ F ++ H) : w'.heap[b]? = W.heap[b]? ∧ b ∉ F' ++ H' := by
  refine ⟨h.touch.block b hb hn, fun hm => ?_⟩
  rcases h.new b hm with h1 | h1
  · exact hn h1
  · omega
/-- A tick of both, one behind the other; in between the caller lays memory of its own. -/
theorem kk_tick {G : World → Prop} {C : KerC G} {w1 W : World} {p : PD} {vc vs vw : Value} {k m : KD} {kb mb : Nat} {F H : List Nat} (hG : G w1) (hp : plchk p = 0) (ht : k.time < 100000000) (ht' : m.time < 100000000) (h : KK C w1 W p vc vs vw k m kb mb F H) :
    Calls Tryz.prog 8 #[.pointer (some ⟨kb, 0, none⟩)] W fun e w2 => e = .returned (evA (tickK p p.spans k).2) ∧ KTouch (F ++ H) W w2 ∧ ∀ w3, Below w2.heap.size w2 w3 →
      Calls Tryz.prog 8 #[.pointer (some ⟨mb, 0, none⟩)] w3 fun e w' => e = .returned (evA (tickK p p.spans m).2) ∧ ∃ F' H', KWent C w1 W w' p vc vs vw (tickK p p.spans k).1 (tickK p p.spans m).1 kb mb F H F' H' ∧ KTouch (F ++ H) w3 w' := by
  refine (C.tick hG h.K hp h.ok ht).mono ?_
  rintro e w2 ⟨rfl, F', hK', tk, hF'⟩
  have hM2 := C.frame h.M tk (fun x hx => ⟨h.ap x hx, (C.ge h.K x hx).1⟩)
  refine ⟨rfl, tk.mono (fun x hx => List.mem_append.2 (Or.inl hx)), fun w3 hb => ?_⟩
  refine (C.tick hG (C.frame hM2 (KTouch.of (M := []) hb) (by simp)) hp h.ok' ht').mono ?_
  rintro e w' ⟨rfl, H', hM', tk2, hH'⟩
  have hs2 := tk.size
  have hs3 := hb.size
  have hap : ∀ g ∈ F', g ∉ H := fun g hg hm => by
    rcases hF' g hg with h1 | h1
    · exact h.ap g h1 hm
    · have := (C.ge h.M g hm).2
      omega
  have hK3 := C.frame hK' (KTouch.of (M := []) hb) (by simp)
  have hflt := fun g hg => (C.ge hK3 g hg).2
  refine ⟨rfl, F', H', ⟨⟨C.frame hK3 tk2 (fun x hx => ⟨fun hm => hap x hm hx, (C.ge h.M x hx).1⟩), hM', fun g hg hm => ?_, tick_ok hp h.ok, tick_ok hp h.ok'⟩, ?_, fun g hg => ?_⟩, tk2.mono (fun x hx => List.mem_append.2 (Or.inr hx))⟩
  · rcases hH' g hm with h1 | h1
    · exact hap g hg h1
    · have := hflt g hg
      omega
  · exact ((tk.mono (fun x hx => List.mem_append.2 (Or.inl hx))).trans (KTouch.of hb)).trans (tk2.mono (fun x hx => List.mem_append.2 (Or.inr hx)))
  · rcases List.mem_append.1 hg with h1 | h1
    · rcases hF' g h1 with h2 | h2
      · exact Or.inl (List.mem_append.2 (Or.inl h2))
      · exact Or.inr h2
    · rcases hH' g h1 with h2 | h2
      · exact Or.inl (List.mem_append.2 (Or.inr h2))
      · exact Or.inr (by omega)
/-- Both are new. -/
theorem kk_new {G : World → Prop} {C : KerC G} {w1 w2 w3 : World} {p : PD} {vc vs vw : Value} {kb mb : Nat} {F H : List Nat} (hp : plchk p = 0) (hK : C.K w1 w2 p vc vs vw (newK p) kb F) (hM : C.K w2 w3 p vc vs vw (newK p) mb H) : KK C w1 w3 p vc vs vw (newK p) (newK p) kb mb F H := by
  have hb1 := C.since hK
  have hb2 := C.since hM
  refine ⟨C.frame hK (KTouch.of (M := []) hb2) (by simp), C.lower hb1 hM, fun g hg hm => ?_, new_ok hp, new_ok hp⟩
  have := (C.ge hK g hg).2
  have := (C.ge hM g hm).1
  omega
/-- The second one was made while the first one was there. -/
theorem kk_pair {G : World → Prop} {C : KerC G} {w1 W W' w3 : World} {p : PD} {vc vs vw : Value} {k m : KD} {kb mb : Nat} {F H : List Nat} (hK : C.K w1 W p vc vs vw k kb F) (hb : Below W.heap.size W W') (hM : C.K W' w3 p vc vs vw m mb H) (hk : KOk p k) (hm : KOk p m) : KK C w1 w3 p vc vs vw k m kb mb F H := by
  have hK' := C.frame hK (KTouch.of (M := []) hb) (by simp)
  have hb1 := C.since hK'
  have hb2 := C.since hM
  refine ⟨C.frame hK' (KTouch.of (M := []) hb2) (by simp), C.lower hb1 hM, fun g hg hm => ?_, hk, hm⟩
  have := (C.ge hK' g hg).2
  have := (C.ge hM g hm).1
  omega
end Go.Proofs.YtfconbblnmbnpaiGreatDoor
namespace Go.Proofs.YtfconbblnmbnpaiGreatDoor
open Go.ChangeShapes

theorem trodAll_four {H : Type} {enc : TypeId × Value → H} {P : Program} {w : World} {base : Nat} {spare : Nat → Bool} {held : Bool} {t0 t1 t2 t3 : TypeId} {args : Array Value} {ds : List (DataW H)} {ps : List MemPlace} (h : DataW.TrodAll enc P w base spare held [t0, t1, t2, t3] args.toList ds ps) :
    ∃ v0 v1 v2 v3 d0 d1 d2 d3 p0 p1 p2 p3, args = #[v0, v1, v2, v3] ∧ ds = [d0, d1, d2, d3] ∧ DataW.Trod enc P w base spare held t0 v0 d0 p0 ∧ DataW.Trod enc P w base spare held t1 v1 d1 p1 ∧ DataW.Trod enc P w base spare held t2 v2 d2 p2 ∧ DataW.Trod enc P w base spare held t3 v3 d3 p3 := by
  obtain ⟨v0, vs0, d0, ds0, p0, q0, hargs, rfl, rfl, h0, r0⟩ := trodAll_cons h
  obtain ⟨v1, vs1, d1, ds1, p1, q1, rfl, rfl, rfl, h1, r1⟩ := trodAll_cons r0
  obtain ⟨v2, vs2, d2, ds2, p2, q2, rfl, rfl, rfl, h2, r2⟩ := trodAll_cons r1
  obtain ⟨v3, vs3, d3, ds3, p3, q3, rfl, rfl, rfl, h3, r3⟩ := trodAll_cons r2
  obtain ⟨rfl, rfl, rfl⟩ := trodAll_nil r3
  exact ⟨v0, v1, v2, v3, d0, d1, d2, d3, p0, p1, p2, p3, by cases args; simp_all, rfl, h0, h1, h2, h3⟩
theorem trodAll_five {H : Type} {enc : TypeId × Value → H} {P : Program} {w : World} {base : Nat} {spare : Nat → Bool} {held : Bool} {t0 t1 t2 t3 t4 : TypeId} {args : Array Value} {ds : List (DataW H)} {ps : List MemPlace} (h : DataW.TrodAll enc P w base spare held [t0, t1, t2, t3, t4] args.toList ds ps) :
    ∃ v0 v1 v2 v3 v4 d0 d1 d2 d3 d4 p0 p1 p2 p3 p4, args = #[v0, v1, v2, v3, v4] ∧ ds = [d0, d1, d2, d3, d4] ∧ DataW.Trod enc P w base spare held t0 v0 d0 p0 ∧ DataW.Trod enc P w base spare held t1 v1 d1 p1 ∧ DataW.Trod enc P w base spare held t2 v2 d2 p2 ∧ DataW.Trod enc P w base spare held t3 v3 d3 p3 ∧ DataW.Trod enc P w base spare held t4 v4 d4 p4 := by
  obtain ⟨v0, vs0, d0, ds0, p0, q0, hargs, rfl, rfl, h0, r0⟩ := trodAll_cons h
  obtain ⟨v1, vs1, d1, ds1, p1, q1, rfl, rfl, rfl, h1, r1⟩ := trodAll_cons r0
  obtain ⟨v2, vs2, d2, ds2, p2, q2, rfl, rfl, rfl, h2, r2⟩ := trodAll_cons r1
  obtain ⟨v3, vs3, d3, ds3, p3, q3, rfl, rfl, rfl, h3, r3⟩ := trodAll_cons r2
  obtain ⟨v4, vs4, d4, ds4, p4, q4, rfl, rfl, rfl, h4, r4⟩ := trodAll_cons r3
  obtain ⟨rfl, rfl, rfl⟩ := trodAll_nil r4
  exact ⟨v0, v1, v2, v3, v4, d0, d1, d2, d3, d4, p0, p1, p2, p3, p4, by cases args; simp_all, rfl, h0, h1, h2, h3, h4⟩
theorem trodAll_six {H : Type} {enc : TypeId × Value → H} {P : Program} {w : World} {base : Nat} {spare : Nat → Bool} {held : Bool} {t0 t1 t2 t3 t4 t5 : TypeId} {args : Array Value} {ds : List (DataW H)} {ps : List MemPlace} (h : DataW.TrodAll enc P w base spare held [t0, t1, t2, t3, t4, t5] args.toList ds ps) :
    ∃ v0 v1 v2 v3 v4 v5 d0 d1 d2 d3 d4 d5 p0 p1 p2 p3 p4 p5, args = #[v0, v1, v2, v3, v4, v5] ∧ ds = [d0, d1, d2, d3, d4, d5] ∧ DataW.Trod enc P w base spare held t0 v0 d0 p0 ∧ DataW.Trod enc P w base spare held t1 v1 d1 p1 ∧ DataW.Trod enc P w base spare held t2 v2 d2 p2 ∧ DataW.Trod enc P w base spare held t3 v3 d3 p3 ∧ DataW.Trod enc P w base spare held t4 v4 d4 p4 ∧ DataW.Trod enc P w base spare held t5 v5 d5 p5 := by
  obtain ⟨v0, vs0, d0, ds0, p0, q0, hargs, rfl, rfl, h0, r0⟩ := trodAll_cons h
  obtain ⟨v1, vs1, d1, ds1, p1, q1, rfl, rfl, rfl, h1, r1⟩ := trodAll_cons r0
  obtain ⟨v2, vs2, d2, ds2, p2, q2, rfl, rfl, rfl, h2, r2⟩ := trodAll_cons r1
  obtain ⟨v3, vs3, d3, ds3, p3, q3, rfl, rfl, rfl, h3, r3⟩ := trodAll_cons r2
  obtain ⟨v4, vs4, d4, ds4, p4, q4, rfl, rfl, rfl, h4, r4⟩ := trodAll_cons r3
  obtain ⟨v5, vs5, d5, ds5, p5, q5, rfl, rfl, rfl, h5, r5⟩ := trodAll_cons r4
  obtain ⟨rfl, rfl, rfl⟩ := trodAll_nil r5
  exact ⟨v0, v1, v2, v3, v4, v5, d0, d1, d2, d3, d4, d5, p0, p1, p2, p3, p4, p5, by cases args; simp_all, rfl, h0, h1, h2, h3, h4, h5⟩
theorem trodAll_seven {H : Type} {enc : TypeId × Value → H} {P : Program} {w : World} {base : Nat} {spare : Nat → Bool} {held : Bool} {t0 t1 t2 t3 t4 t5 t6 : TypeId} {args : Array Value} {ds : List (DataW H)} {ps : List MemPlace} (h : DataW.TrodAll enc P w base spare held [t0, t1, t2, t3, t4, t5, t6] args.toList ds ps) :
    ∃ v0 v1 v2 v3 v4 v5 v6 d0 d1 d2 d3 d4 d5 d6 p0 p1 p2 p3 p4 p5 p6, args = #[v0, v1, v2, v3, v4, v5, v6] ∧ ds = [d0, d1, d2, d3, d4, d5, d6] ∧ DataW.Trod enc P w base spare held t0 v0 d0 p0 ∧ DataW.Trod enc P w base spare held t1 v1 d1 p1 ∧ DataW.Trod enc P w base spare held t2 v2 d2 p2 ∧ DataW.Trod enc P w base spare held t3 v3 d3 p3 ∧ DataW.Trod enc P w base spare held t4 v4 d4 p4 ∧ DataW.Trod enc P w base spare held t5 v5 d5 p5 ∧ DataW.Trod enc P w base spare held t6 v6 d6 p6 := by
  obtain ⟨v0, vs0, d0, ds0, p0, q0, hargs, rfl, rfl, h0, r0⟩ := trodAll_cons h
  obtain ⟨v1, vs1, d1, ds1, p1, q1, rfl, rfl, rfl, h1, r1⟩ := trodAll_cons r0
  obtain ⟨v2, vs2, d2, ds2, p2, q2, rfl, rfl, rfl, h2, r2⟩ := trodAll_cons r1
  obtain ⟨v3, vs3, d3, ds3, p3, q3, rfl, rfl, rfl, h3, r3⟩ := trodAll_cons r2
  obtain ⟨v4, vs4, d4, ds4, p4, q4, rfl, rfl, rfl, h4, r4⟩ := trodAll_cons r3
  obtain ⟨v5, vs5, d5, ds5, p5, q5, rfl, rfl, rfl, h5, r5⟩ := trodAll_cons r4
  obtain ⟨v6, vs6, d6, ds6, p6, q6, rfl, rfl, rfl, h6, r6⟩ := trodAll_cons r5
  obtain ⟨rfl, rfl, rfl⟩ := trodAll_nil r6
  exact ⟨v0, v1, v2, v3, v4, v5, v6, d0, d1, d2, d3, d4, d5, d6, p0, p1, p2, p3, p4, p5, p6, by cases args; simp_all, rfl, h0, h1, h2, h3, h4, h5, h6⟩
end Go.Proofs.YtfconbblnmbnpaiGreatDoor
