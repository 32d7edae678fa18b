/-
  The law WirePlays: both lines side by side; a wire that is wrong.
-/
import Derived.Test.YtonoldabcipjgacDoorWSame
import Derived.Test.YtonoldabcipjgacDoorWSend
import Derived.Test.YtonoldabcipjgacDoorWRefW
import Derived.Test.YtonoldabcipjgacDoorToldL
namespace Go.Proofs.YtonoldabcipjgacDoor
open Go.RowKit

/-- Both lines: the program's holds xs, the document's ys. -/
structure Mid (w : World) (base bl bm : Nat) (kd dp : Int) (xs : List Int) (ls : Int) (v : Value) (ys : List Int) (ms : Int) (u : Value) : Prop where
  p : Ln w base bl kd dp xs ls v
  r : Rl w base bm kd dp ys ms u
  apart : ∀ k, v.ownBlock = some k → u.ownBlock ≠ some k
  ne : bl ≠ bm
theorem Mid.stepR {w w' : World} {base bl bm : Nat} {kd dp ls ms ms' : Int} {xs ys ys' : List Int} {v u u' : Value} (h : Mid w base bl bm kd dp xs ls v ys ms u) (hR : Rl w' base bm kd dp ys' ms' u') (hT : RTouch w w' bm u u') : Mid w' base bl bm kd dp xs ls v ys' ms' u' := by
  have hle := h.p.le
  have hlt := h.p.lt
  have hrl := h.r.lt
  refine ⟨⟨h.p.c.block (hT.block bl (by omega) h.ne), own_block h.p.row (fun k hk => hT.block k (h.p.row.lt k hk).2 (by have := (h.p.row.lt k hk).1; omega)), h.p.lt, Nat.le_trans h.p.le hT.size⟩, hR, fun k hk hu => ?_, h.ne⟩
  rcases hT.new k hu with h1 | h1
  · exact h.apart k hk h1
  · have := (h.p.row.lt k hk).2
    omega
theorem Mid.stepP {w w' : World} {base bl bm : Nat} {kd dp ls ls' ms : Int} {xs xs' ys : List Int} {v v' u : Value} (h : Mid w base bl bm kd dp xs ls v ys ms u) (hL : Ln w' base bl kd dp xs' ls' v') (hT : Touch w w' bl v v') : Mid w' base bl bm kd dp xs' ls' v' ys ms u := by
  have hle := h.p.le
  have hlt := h.p.lt
  have hrl := h.r.lt
  refine ⟨hL, ⟨h.r.c.block (hT.block bm (by omega) (fun e => h.ne e.symm) (fun e => by have := (h.p.row.lt bm e.symm).1; omega)), h.r.rd.block (fun k hk hu => hT.block k hk (by have := (h.r.own k hu).1; omega) (fun e => h.apart k e.symm hu)) hT.size, fun k hk => by have := h.r.own k hk; have := hT.size; omega, h.r.lt, Nat.le_trans h.r.le hT.size⟩, fun k hk hu => ?_, h.ne⟩
  rcases hT.new k hk with h1 | h1
  · exact h.apart k h1 hu
  · have := (h.r.own k hu).2
    omega
theorem Mid.below {w w' : World} {base bl bm : Nat} {kd dp ls ms : Int} {xs ys : List Int} {v u : Value} (h : Mid w base bl bm kd dp xs ls v ys ms u) (hb : Below w.heap.size w w') : Mid w' base bl bm kd dp xs ls v ys ms u :=
  ⟨h.p.below hb, ⟨h.r.c.block (hb.block bm h.r.c.lt), h.r.rd.all hb, fun k hk => by have := h.r.own k hk; have := hb.size; omega, h.r.lt, Nat.le_trans h.r.le hb.size⟩, h.apart, h.ne⟩
theorem Touch.low {B : Nat} {w0 w w2 : World} {base bl bm : Nat} {kd dp ls ms : Int} {xs ys : List Int} {v v' u : Value} (h : Mid w base bl bm kd dp xs ls v ys ms u) (hw : Below B w0 w) (hB : B ≤ w.heap.size) (hb : B ≤ bl) (hT : Touch w w2 bl v v') : Below B w0 w2 :=
  hw.trans (hT.below hb (h.p.own (Nat.le_trans hb (Nat.le_of_lt h.p.lt))) hB)
theorem RTouch.low {B : Nat} {w0 w w2 : World} {bm : Nat} {u u' : Value} (hw : Below B w0 w) (hB : B ≤ w.heap.size) (hb : B ≤ bm) (hT : RTouch w w2 bm u u') : Below B w0 w2 := hw.trans (hT.below hb hB)

set_option maxRecDepth 100000 in
set_option maxHeartbeats 4000000 in
theorem play_bad (f t k d : Int) (sv : Value) (w : World) (hE : ErrT w) (h : wchk f t k d ≠ 0) :
    Calls Tryd.prog 3 #[wV f t k d, sv] w fun ev w' => ev = .returned (.bool true) ∧ Below w.heap.size w w' := by
  have hA : Below w.heap.size w (w.alloc (.cells #[.int .i64 f, .int .i64 t, .int .i64 k, .int .i64 d] 23)) := (Below.refl _ _).alloc (Nat.le_refl _) _
  have hr := refwire_any f t k d (w.alloc (.cells #[.int .i64 f, .int .i64 t, .int .i64 k, .int .i64 d] 23))
  have HN : Hid (∀ W, Calls Tryd.prog 7 #[wV f t k d] W fun e w' => e = .returned (.tuple #[.pointer none, .iface 48 (.int .i64 (wchk f t k d))]) ∧ Below W.heap.size W w') := fun W => wnew_no f t k d W h
  have HC : Hid (∀ W, Calls Tryd.prog 6 #[wV f t k d] W fun e w' => e = .returned (.iface 48 (.int .i64 (wchk f t k d))) ∧ Below W.heap.size W w') := fun W => by
    have := wcheck_any f t k d W
    rw [wErr_not h] at this
    exact this
  have HX : Hid (∀ W, Below w.heap.size w W → Calls Tryd.prog 5 #[.iface 48 (.int .i64 (wchk f t k d)), .int .i64 (wchk f t k d)] W fun r w' => r = .returned (.bool true) ∧ Below W.heap.size W w') := fun W hW => by
    have := error_any (wchk f t k d) (wchk f t k d) W (hE.all hW)
    rw [wErr_not h] at this
    simpa using this
  have hq : ¬ wchk f t k d = 0 := h
  generalize wchk f t k d = q at hr HN HC HX hq
  clear h hE
  have HQ : Hid (∀ W, Below (w.heap.size + 1) (w.alloc (.cells #[.int .i64 f, .int .i64 t, .int .i64 k, .int .i64 d] 23)) W → (W.cell? ⟨w.heap.size, 0, none⟩ = some (.int .i64 f) ∧ W.cell? ⟨w.heap.size, 1, none⟩ = some (.int .i64 t) ∧ W.cell? ⟨w.heap.size, 2, none⟩ = some (.int .i64 k) ∧ W.cell? ⟨w.heap.size, 3, none⟩ = some (.int .i64 d)) ∧ w.heap.size < W.heap.size ∧ Below w.heap.size w W) := fun W hW => ⟨⟨(hW.cell (p := ⟨w.heap.size, 0, none⟩) (by simp)).trans (by simp), (hW.cell (p := ⟨w.heap.size, 1, none⟩) (by simp)).trans (by simp), (hW.cell (p := ⟨w.heap.size, 2, none⟩) (by simp)).trans (by simp), (hW.cell (p := ⟨w.heap.size, 3, none⟩) (by simp)).trans (by simp)⟩, by have := hW.size; simp at this; omega, hA.trans (hW.mono (Nat.le_succ _))⟩
  unfold wV at hr HN HC ⊢
  go_enter Tryd.func3, Tryd.ntmps3
  go_wp2_with (first
    | (go_at_call 4; refine hr.mono ?_; rintro e w1 ⟨rfl, b1⟩; clear hr; replace b1 : Below (w.heap.size + 1) (w.alloc (.cells #[.int .i64 f, .int .i64 t, .int .i64 k, .int .i64 d] 23)) w1 := by simpa using b1
       obtain ⟨⟨r0, r1, r2, r3⟩, hlt1, _⟩ := HQ.out w1 b1
       have hc := HC.out w1; clear HC)
    | (go_at_call 6; refine hc.mono ?_; rintro e w2 ⟨rfl, b2⟩; clear hc; replace b2 := b1.trans (b2.mono hlt1)
       clear r0 r1 r2 r3
       obtain ⟨⟨r0, r1, r2, r3⟩, hlt2, hb2⟩ := HQ.out w2 b2
       have hx1 := HX.out w2 hb2)
    | (go_at_call 5; refine hx1.mono ?_; rintro e w3 ⟨rfl, b3⟩; clear hx1; replace b3 := b2.trans (b3.mono hlt2)
       clear r0 r1 r2 r3
       obtain ⟨⟨r0, r1, r2, r3⟩, hlt3, hb3⟩ := HQ.out w3 b3
       have hn := HN.out w3; clear HN)
    | (go_at_call 7; refine hn.mono ?_; rintro e w4 ⟨rfl, b4⟩; clear hn; replace b4 := b3.trans (b4.mono hlt3)
       clear r0 r1 r2 r3
       obtain ⟨_, hlt4, hb4⟩ := HQ.out w4 b4
       have hx2 := HX.out w4 hb4; clear HX)
    | (go_at_call 5; refine hx2.mono ?_; rintro e w5 ⟨rfl, b5⟩; clear hx2))
  go_ret
  exact ⟨rfl, hb4.trans (b5.mono hb4.size)⟩
end Go.Proofs.YtonoldabcipjgacDoor
