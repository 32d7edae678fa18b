/-
  SgtCR, SgtC, SSame0: joined into one text.
-/
import Derived.Test.YteoemcekkcnpladDoorJa3
import Derived.Test.YteoemcekkcnpladDoorSgtMath
import Derived.Test.YteoemcekkcnpladDoorJa11
import Derived.Test.YteoemcekkcnpladDoorJa8
namespace Go.Proofs.YteoemcekkcnpladDoor
open Go.RowKit

/-- Run: the states of a room of a new kernel. -/
def SgtRun (G : World → Prop) : Prop := ∀ (p : PD) (vc vs vw : Value) (n r : Int) (W : World), G W → Pln W vc vs vw p → Calls Tryd.prog 19 #[plV vc p.ticks vs vw, .int .i64 n, .int .i64 r] W fun e w' => ∃ v, e = .returned (.tuple #[v, wErr (runE p n r)]) ∧ StL w' v (if runE p n r = 0 then statesK p n.toNat r.toNat else []) ∧ Below W.heap.size W w'
end Go.Proofs.YteoemcekkcnpladDoor
namespace Go.Proofs.YteoemcekkcnpladDoor
open Go.RowKit

/-- Of: what a room sees of a kernel of a plan. -/
def SgtOf {G : World → Prop} (C : KerC G) : Prop := ∀ {w0 W p vc vs vw k kb F} (ic is iw : Value) (r : Int), G w0 → C.K w0 W p vc vs vw k kb F → KOk p k → plchk p = 0 → Pln W ic is iw p → Calls Tryd.prog 18 #[.pointer (some ⟨kb, 0, none⟩), plV ic p.ticks is iw, .int .i64 r] W fun e w' => ∃ v, e = .returned (.tuple #[stA (roomK k r), v, wErr (errB (noRoom k r))]) ∧ HdL w' v (if noRoom k r = true then [] else seesK k r) ∧ Below W.heap.size W w'
end Go.Proofs.YteoemcekkcnpladDoor
namespace Go.Proofs.YteoemcekkcnpladDoor
open Go.RowKit

/-- Neither has what the other one has. -/
structure KK {G : World → Prop} (C : KerC G) (w1 wr : World) (p : PD) (vc vs vw : Value) (k m : KD) (kb mb : Nat) (F H : List Nat) : Prop where
  K : C.K w1 wr p vc vs vw k kb F
  M : C.K w1 wr p vc vs vw m mb H
  ap : ∀ g ∈ F, g ∉ H
  ok : KOk p k
  ok' : KOk p m
theorem KK.lt {G : World → Prop} {C : KerC G} {w1 wr : World} {p : PD} {vc vs vw : Value} {k m : KD} {kb mb : Nat} {F H : List Nat} (h : KK C w1 wr p vc vs vw k m kb mb F H) : ∀ g ∈ F ++ H, w1.heap.size ≤ g ∧ g < wr.heap.size := fun g hg => by
  rcases List.mem_append.1 hg with h1 | h1
  · exact C.ge h.K g h1
  · exact C.ge h.M g h1
theorem KK.all {G : World → Prop} {C : KerC G} {w1 wr w' : World} {p : PD} {vc vs vw : Value} {k m : KD} {kb mb : Nat} {F H : List Nat} (h : KK C w1 wr p vc vs vw k m kb mb F H) (hb : Below wr.heap.size wr w') : KK C w1 w' p vc vs vw k m kb mb F H :=
  ⟨C.frame h.K (KTouch.of (M := []) hb) (by simp), C.frame h.M (KTouch.of (M := []) hb) (by simp), h.ap, h.ok, h.ok'⟩
/-- Blocks of the caller's own are written. -/
theorem KK.set {G : World → Prop} {C : KerC G} {w1 wr w' : World} {p : PD} {vc vs vw : Value} {k m : KD} {kb mb : Nat} {F H : List Nat} (h : KK C w1 wr p vc vs vw k m kb mb F H) {b : Nat} (ht : KTouch [b] wr w') (hb : b ∉ F ++ H) (hw : w1.heap.size ≤ b) : KK C w1 w' p vc vs vw k m kb mb F H := by
  have h1 : b ∉ F := fun e => hb (List.mem_append.2 (Or.inl e))
  have h2 : b ∉ H := fun e => hb (List.mem_append.2 (Or.inr e))
  refine ⟨C.frame h.K ht (fun x hx => ?_), C.frame h.M ht (fun x hx => ?_), h.ap, h.ok, h.ok'⟩
  · rw [List.mem_singleton] at hx
    subst hx
    exact ⟨h1, hw⟩
  · rw [List.mem_singleton] at hx
    subst hx
    exact ⟨h2, hw⟩
/-- What came of a call on both. -/
structure KWent {G : World → Prop} (C : KerC G) (w1 W w' : World) (p : PD) (vc vs vw : Value) (k m : KD) (kb mb : Nat) (F H F' H' : List Nat) : Prop where
  kk : KK C w1 w' p vc vs vw k m kb mb F' H'
  touch : KTouch (F ++ H) W w'
  new : ∀ g ∈ F' ++ H', g ∈ F ++ H ∨ W.heap.size ≤ g
theorem KWent.keep {G : World → Prop} {C : KerC G} {w1 W w' : World} {p : PD} {vc vs vw : Value} {k m : KD} {kb mb : Nat} {F H F' H' : List Nat} (h : KWent C w1 W w' p vc vs vw k m kb mb F H F' H') {b : Nat} (hb : b < W.heap.size) (hn : b ∉ F ++ H) : w'.heap[b]? = W.heap[b]? ∧ b ∉ F' ++ H' := by
  refine ⟨h.touch.block b hb hn, fun hm => ?_⟩
  rcases h.new b hm with h1 | h1
  · exact hn h1
  · omega
/-- A tick of both, one behind the other; in between the caller lays memory of its own. -/
theorem kk_tick {G : World → Prop} {C : KerC G} {w1 W : World} {p : PD} {vc vs vw : Value} {k m : KD} {kb mb : Nat} {F H : List Nat} (hG : G w1) (hp : plchk p = 0) (ht : k.time < 1000000) (ht' : m.time < 1000000) (h : KK C w1 W p vc vs vw k m kb mb F H) :
    Calls Tryd.prog 11 #[.pointer (some ⟨kb, 0, none⟩)] W fun e w2 => e = .returned (evA (tickK p p.spans k).2) ∧ KTouch (F ++ H) W w2 ∧ ∀ w3, Below w2.heap.size w2 w3 →
      Calls Tryd.prog 11 #[.pointer (some ⟨mb, 0, none⟩)] w3 fun e w' => e = .returned (evA (tickK p p.spans m).2) ∧ ∃ F' H', KWent C w1 W w' p vc vs vw (tickK p p.spans k).1 (tickK p p.spans m).1 kb mb F H F' H' ∧ KTouch (F ++ H) w3 w' := by
  refine (C.tick hG h.K hp h.ok ht).mono ?_
  rintro e w2 ⟨rfl, F', hK', tk, hF'⟩
  have hM2 := C.frame h.M tk (fun x hx => ⟨h.ap x hx, (C.ge h.K x hx).1⟩)
  refine ⟨rfl, tk.mono (fun x hx => List.mem_append.2 (Or.inl hx)), fun w3 hb => ?_⟩
  refine (C.tick hG (C.frame hM2 (KTouch.of (M := []) hb) (by simp)) hp h.ok' ht').mono ?_
  rintro e w' ⟨rfl, H', hM', tk2, hH'⟩
  have hs2 := tk.size
  have hs3 := hb.size
  have hap : ∀ g ∈ F', g ∉ H := fun g hg hm => by
    rcases hF' g hg with h1 | h1
    · exact h.ap g h1 hm
    · have := (C.ge h.M g hm).2
      omega
  have hK3 := C.frame hK' (KTouch.of (M := []) hb) (by simp)
  have hflt := fun g hg => (C.ge hK3 g hg).2
  refine ⟨rfl, F', H', ⟨⟨C.frame hK3 tk2 (fun x hx => ⟨fun hm => hap x hm hx, (C.ge h.M x hx).1⟩), hM', fun g hg hm => ?_, tick_ok hp h.ok, tick_ok hp h.ok'⟩, ?_, fun g hg => ?_⟩, tk2.mono (fun x hx => List.mem_append.2 (Or.inr hx))⟩
  · rcases hH' g hm with h1 | h1
    · exact hap g hg h1
    · have := hflt g hg
      omega
  · exact ((tk.mono (fun x hx => List.mem_append.2 (Or.inl hx))).trans (KTouch.of hb)).trans (tk2.mono (fun x hx => List.mem_append.2 (Or.inr hx)))
  · rcases List.mem_append.1 hg with h1 | h1
    · rcases hF' g h1 with h2 | h2
      · exact Or.inl (List.mem_append.2 (Or.inl h2))
      · exact Or.inr h2
    · rcases hH' g h1 with h2 | h2
      · exact Or.inl (List.mem_append.2 (Or.inr h2))
      · exact Or.inr (by omega)
/-- Both are new, and the second one is poked. -/
theorem kk_new {G : World → Prop} {C : KerC G} {w1 w2 w3 : World} {p : PD} {vc vs vw : Value} {kb mb : Nat} {F H : List Nat} (hp : plchk p = 0) (hK : C.K w1 w2 p vc vs vw (newK p) kb F) (hM : C.K w2 w3 p vc vs vw (newK p) mb H) : KK C w1 w3 p vc vs vw (newK p) (newK p) kb mb F H := by
  have hb1 := C.since hK
  have hb2 := C.since hM
  refine ⟨C.frame hK (KTouch.of (M := []) hb2) (by simp), C.lower hb1 hM, fun g hg hm => ?_, new_ok hp, new_ok hp⟩
  have := (C.ge hK g hg).2
  have := (C.ge hM g hm).1
  omega
theorem kk_poke {G : World → Prop} {C : KerC G} (CP : KerPoke C) {w1 W : World} {p : PD} {vc vs vw : Value} {k m : KD} {kb mb : Nat} {F H : List Nat} (hp : plchk p = 0) (r c n : Int) (h : KK C w1 W p vc vs vw k m kb mb F H) :
    Calls Tryd.prog 20 #[.pointer (some ⟨mb, 0, none⟩), .int .i64 r, .int .i64 c, .int .i64 n] W fun e w' => e = .returned (wErr (pokeN m r c n)) ∧ ∃ H', KK C w1 w' p vc vs vw k (pokeK m r c n) kb mb F H' ∧ KTouch H W w' ∧ ∀ g ∈ F ++ H', g ∈ F ++ H ∨ W.heap.size ≤ g := by
  refine (CP r c n h.M h.ok' hp).mono ?_
  rintro e w' ⟨rfl, H', hM', tk, hH'⟩
  refine ⟨rfl, H', ⟨C.frame h.K tk (fun x hx => ⟨fun hm => h.ap x hm hx, (C.ge h.M x hx).1⟩), hM', fun g hg hm => ?_, h.ok, poke_ok h.ok' r c n⟩, tk, fun g hg => ?_⟩
  · rcases hH' g hm with h1 | h1
    · exact h.ap g hg h1
    · have := (C.ge h.K g hg).2
      omega
  · rcases List.mem_append.1 hg with h1 | h1
    · exact Or.inl (List.mem_append.2 (Or.inl h1))
    · rcases hH' g h1 with h2 | h2
      · exact Or.inl (List.mem_append.2 (Or.inr h2))
      · exact Or.inr h2
/-- The poked one: another room is seen the same. -/
theorem poke_other {p : PD} {o : Int} {c n : Int} {r : Nat} (hr : o ≠ (r : Int)) (ho : pokeB (newK p) o c n = false) : (pokeK (newK p) o c n).rooms[r]? = (newK p).rooms[r]? ∧ (pokeK (newK p) o c n).lines = (newK p).lines ∧ (pokeK (newK p) o c n).time = (newK p).time := by
  obtain ⟨h0, h1, _⟩ := pokeB_false ho
  unfold pokeK
  rw [ho, if_neg (by decide)]
  refine ⟨?_, rfl, rfl⟩
  show ((newK p).rooms.set o.toNat _)[r]? = _
  rw [List.getElem?_set_ne (by omega)]
end Go.Proofs.YteoemcekkcnpladDoor
