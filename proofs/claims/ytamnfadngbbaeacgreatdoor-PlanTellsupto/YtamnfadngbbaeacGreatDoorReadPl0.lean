/-
  Reading a plan: lines as words and numbers; an append inside a region that draws.
-/
import Derived.Test.YtamnfadngbbaeacGreatDoorBaseA
import Derived.Test.YtamnfadngbbaeacGreatDoorRefReadOp
import Derived.Test.YtamnfadngbbaeacGreatDoorRefNumA
import Derived.Deep.RegionHeld3
import Derived.Deep.RegionLaw
import Derived.Test.YtamnfadngbbaeacGreatDoorPushL
namespace Go.Proofs.YtamnfadngbbaeacGreatDoor
open Go.RowKit

theorem words_of (u : List UInt8) : ∃ p ps, cutB 32 u = p :: ps := by
  have := (cutGo_len 32 u []).1
  unfold cutB
  cases h : cutGo 32 [] u with
  | nil => rw [h] at this; simp at this
  | cons p ps => exact ⟨p, ps, rfl⟩
theorem body_cut {u p : List UInt8} {ps : List (List UInt8)} (h : cutB 32 u = p :: ps) : bodyB u = (numsOf ps).map fun ns => (p, ns) := by unfold bodyB; rw [h]
theorem body_none {u p : List UInt8} {ps : List (List UInt8)} (h : cutB 32 u = p :: ps) (hn : numsOf ps = none) : bodyB u = none := by rw [body_cut h, hn]; rfl
theorem body_some {u p : List UInt8} {ps : List (List UInt8)} {ns : List Int} (h : cutB 32 u = p :: ps) (hn : numsOf ps = some ns) : bodyB u = some (p, ns) := by rw [body_cut h, hn]; rfl
theorem spanOf_bad {u : List UInt8} (h : bodyB u = none) : spanOf u = none := by unfold spanOf; rw [h]
theorem wireOf_bad {u : List UInt8} (h : bodyB u = none) : wireOf u = none := by unfold wireOf; rw [h]
theorem frameOf_bad {u : List UInt8} (h : bodyB u = none) : frameOf u = none := by unfold frameOf; rw [h]
theorem spanOf_no {u p : List UInt8} {ns : List Int} (h : bodyB u = some (p, ns)) (hx : p ≠ wSpan ∨ ns.length ≠ 3) : spanOf u = none := by
  unfold spanOf
  rw [h]
  match ns, hx with
  | [], _ => rfl
  | [_], _ => rfl
  | [_, _], _ => rfl
  | [_, _, _], hx => simp only; rw [if_neg]; rcases hx with h | h; exact h; simp at h
  | _ :: _ :: _ :: _ :: _, _ => rfl
theorem wireOf_no {u p : List UInt8} {ns : List Int} (h : bodyB u = some (p, ns)) (hx : p ≠ wWire ∨ ns.length ≠ 4) : wireOf u = none := by
  unfold wireOf
  rw [h]
  match ns, hx with
  | [], _ => rfl
  | [_], _ => rfl
  | [_, _], _ => rfl
  | [_, _, _], _ => rfl
  | [_, _, _, _], hx => simp only; rw [if_neg]; rcases hx with h | h; exact h; simp at h
  | _ :: _ :: _ :: _ :: _ :: _, _ => rfl
theorem frameOf_no {u p : List UInt8} {ns : List Int} (h : bodyB u = some (p, ns)) (hx : p ≠ wFrame ∨ ns.length ≠ 1) : frameOf u = none := by
  unfold frameOf
  rw [h]
  match ns, hx with
  | [], _ => rfl
  | [_], hx => simp only; rw [if_neg]; rcases hx with h | h; exact h; simp at h
  | _ :: _ :: _, _ => rfl
theorem spanOf_yes {u : List UInt8} {a b c : Int} (h : bodyB u = some (wSpan, [a, b, c])) : spanOf u = some (a, b, c) := by unfold spanOf; rw [h]; simp
theorem wireOf_yes {u : List UInt8} {a b c d : Int} (h : bodyB u = some (wWire, [a, b, c, d])) : wireOf u = some (a, b, c, d) := by unfold wireOf; rw [h]; simp
theorem frameOf_yes {u : List UInt8} {a : Int} (h : bodyB u = some (wFrame, [a])) : frameOf u = some a := by unfold frameOf; rw [h]; simp
theorem three_of {ns : List Int} (h : ns.length = 3) : ∃ x y z, ns = [x, y, z] := by
  match ns, h with
  | [x, y, z], _ => exact ⟨x, y, z, rfl⟩
theorem four_of {ns : List Int} (h : ns.length = 4) : ∃ x y z t, ns = [x, y, z, t] := by
  match ns, h with
  | [x, y, z, t], _ => exact ⟨x, y, z, t, rfl⟩
theorem intAt_lit {w : World} {ao : Option Addr} {x : Int} {xs : List Int} (h : IntAt w ao (x :: xs)) : ∃ nb no, ao = some ⟨nb, no, none⟩ ∧ nb < w.heap.size ∧ ∀ (i : Nat) z, (x :: xs)[i]? = some z → w.cell? ⟨nb, no + i, none⟩ = some (.int .i64 z) := by
  rcases h with h | ⟨a, rfl, ha, hc⟩
  · cases h
  · have h0 := hc 0 x rfl
    have ea : a = ⟨a.block, a.off, none⟩ := by
      obtain ⟨b, o, s⟩ := a
      cases s with
      | none => rfl
      | some s =>
        exfalso
        unfold Addr.add at h0
        simp [World.cell?] at h0
        split at h0 <;> simp at h0
    refine ⟨a.block, a.off, by rw [← ea], ha, fun i z hz => ?_⟩
    have := hc i z hz
    rw [ea, Addr.add_lit] at this
    exact this
/-- append onto a row that the call owns: the run, and where the new row lies. -/
theorem run_append_at {P : Program} (w : World) (t ty : TypeId) (base : Nat) (e : TypeId) (i : TypeInfo) (z : Value) (size bytes : Nat) (ht : P.underlying t = some (.slice e)) (hi : P.info? e = some i) (hz : i.zero = some z)
    (hsize : i.size = size) (hby : i.bytes = bytes) (hzs : z.cells.size = size) (hsz : 0 < size) (v : Value) (n : Nat) (xs : List Value) (hown : w.ownsRow base e size v n xs)
    (ad : Addr) (m c : Nat) (news : List Value) (hl : news.length = m * size) (hnews : ∀ j u, news[j]? = some u → w.cell? (ad.add j) = some u) (h1 : ∀ u ∈ news, u.oneCell' = true)
    (h63 : n + m ≤ maxLen) (hbytes : (n + m) * bytes ≤ 140737488355328) (hbase : base ≤ w.heap.size) :
    ∃ v' w', (Builtin.append_ #[t, t] ty #[v, .slice (some ad) m c]).run P w = .ok v' w' ∧ w'.ownsRow base e size v' (n + m) (xs ++ news) ∧ w.grownBy w' v.ownBlock ∧ (∀ k, v'.ownBlock = some k → v.ownBlock = some k ∨ w.heap.size ≤ k) := by
  obtain ⟨v', w', hr, h2, h3, h4⟩ := run_append_own (P := P) w base t ty e i z size bytes ht hi hz hsize hby hzs hsz v n xs hown ad m c news hl hnews h1 h63 hbytes hbase
  refine ⟨v', w', hr, h2, h3, ?_⟩
  have h63' : n + m ≤ 9223372036854775807 := by simpa [maxLen] using h63
  subst hsize
  subst hby
  intro k hk
  rcases hown.2 with ⟨rfl, rfl⟩ | ⟨g, cap, cur, rfl, hbg, hg, hnc, hcm, hcs, htake⟩
  · by_cases hm : m = 0
    · rw [h4.2 ⟨rfl, hm⟩] at hk
      cases hk
    · have hr2 := run_append_nil (P := P) w t ty e i z ht hi hz ad m c news hl hnews (by omega) (by omega) (by have hb := hbytes; simp only [Nat.zero_add] at hb; omega)
      rw [hr] at hr2
      injection hr2 with e1 e2
      subst e1
      simp only [Value.ownBlock, Option.some.injEq] at hk
      right
      omega
  · by_cases hroom : n + m ≤ cap
    · have hfit : n * i.size + news.length ≤ cur.size := by rw [hl, hcs, ← Nat.add_mul]; exact Nat.mul_le_mul_right _ hroom
      have hr2 := run_append_room (P := P) w t ty e i ht hi g n cap cur hg ad m c news hl hnews h1 hroom hfit
      rw [hr] at hr2
      injection hr2 with e1 e2
      subst e1
      left
      exact hk
    · have holds : ∀ j u, xs[j]? = some u → w.cell? ((⟨g, 0, none⟩ : Addr).add j) = some u := hown.cells (g := g) rfl
      have hr2 := run_append_grow (P := P) w t ty e i z ht hi hz ⟨g, 0, none⟩ n cap xs hown.1 holds ad m c news hl hnews (by omega) (by omega) (growslice_fits (by omega) hbytes)
      rw [hr] at hr2
      injection hr2 with e1 e2
      subst e1
      simp only [Value.ownBlock, Option.some.injEq] at hk
      right
      omega
/-- append, by its run, as one step of a region that draws. -/
theorem step_append_eq {P : Program} {ops : Array Oper} {o : Oper} {a : Act} {w : World} {K : Act → World → Prop} {Q : Exit → Act → World → Prop} {E : Prop}
    (hg : o.guard = none) (s x : Operand) (t : TypeId) (hop : o.op = Op.call { callee := Callee.builtin Builtin.append, args := #[s, x], argTypes := #[t, t] })
    (v1 v2 : Value) (hs : a.eval s = v1) (hx : a.eval x = v2) (v' : Value) (w' : World) (hr : (Builtin.append_ #[t, t] o.type #[v1, v2]).run P w = .ok v' w') (hK : K (a.put o.dst v') w') :
    if Region.wanted o (yielded ops a.tmps) = true then Oper.wp P o a w K Q else E := by
  have hw : Region.wanted o (yielded ops a.tmps) = true := by simp [Region.wanted, hg]
  rw [if_pos hw]
  unfold Oper.wp execOp
  simp only [hop, resolve, invoke, builtin, Sem.run_bind, Sem.run_pure, Result.andThen_ok, List.map_toArray, List.map_cons, List.map_nil, hs, hx, hr]
  exact hK
theorem three_one (a b c : Int) : ∀ u ∈ [Value.int .i64 a, .int .i64 b, .int .i64 c], u.oneCell' = true := by
  intro u hu
  simp at hu
  rcases hu with rfl | rfl | rfl <;> rfl
theorem Bx.f {w W : World} {vc vs vw : Value} {n : Int} (h : Bx w W vc n vs vw) : W.frozen? ⟨w.heap.size, 0, none⟩ = false ∧ W.frozen? ⟨w.heap.size, 1, none⟩ = false ∧ W.frozen? ⟨w.heap.size, 2, none⟩ = false ∧ W.frozen? ⟨w.heap.size, 3, none⟩ = false :=
  ⟨(Below.frozen h (p := ⟨w.heap.size, 0, none⟩) (by simp)).trans (by simp), (Below.frozen h (p := ⟨w.heap.size, 1, none⟩) (by simp)).trans (by simp), (Below.frozen h (p := ⟨w.heap.size, 2, none⟩) (by simp)).trans (by simp), (Below.frozen h (p := ⟨w.heap.size, 3, none⟩) (by simp)).trans (by simp)⟩
end Go.Proofs.YtamnfadngbbaeacGreatDoor
