/-
  DraftMath, DraftCut: joined into one text.
-/
import Derived.Test.YtamnfadngbbaeacGreatDoorMathA
namespace Go.Proofs.YtamnfadngbbaeacGreatDoor

/-- What a line lays into a draft. -/
inductive Act where
  | tick (n : Int)
  | span (s : S3)
  | wire (x : W4)
  | room
  | op (o : O3)
/-- Of which kind the last line then was. -/
def Act.kind : Act → Nat
  | .tick _ => 1
  | .span _ => 2
  | .wire _ => 3
  | .room => 4
  | .op _ => 4
def actF (k : Nat) (ns : List Int) : Option Act := match ns with
  | [n] => if k = 0 then some (.tick n) else none
  | _ => none
def actS (k : Nat) (ns : List Int) : Option Act := match ns with
  | [a, b, c] => if 1 ≤ k ∧ k ≤ 2 then some (.span (a, b, c)) else none
  | _ => none
def actW (k : Nat) (ns : List Int) : Option Act := match ns with
  | [a, b, c, d] => if 1 ≤ k ∧ k ≤ 3 then some (.wire (a, b, c, d)) else none
  | _ => none
def actR (k : Nat) (ns : List Int) : Option Act := match ns with
  | [] => if 1 ≤ k then some .room else none
  | _ => none
def actO (k : Nat) (o : Option O3) : Option Act := match o with
  | none => none
  | some o => if k = 4 then some (.op o) else none
/-- What a line does, behind one of kind k. -/
def actB (k : Nat) (l : List UInt8) : Option Act := match readB l with
  | none => none
  | some (p, ns) => if p = wFrame then actF k ns else if p = wSpan then actS k ns else if p = wWire then actW k ns else if p = wRoom then actR k ns else actO k (opRead l)

/-- The lines, one by one. -/
def runA (lay : PD → Act → PD) : Nat → PD → List (List UInt8) → Option (Nat × PD)
  | k, p, [] => some (k, p)
  | k, p, l :: r => match actB k l with
    | none => none
    | some a => runA lay a.kind (lay p a) r
theorem runA_snoc (lay : PD → Act → PD) : ∀ (ls : List (List UInt8)) (k : Nat) (p : PD) (x : List UInt8), runA lay k p (ls ++ [x]) = match runA lay k p ls with
    | none => none
    | some (k', p') => match actB k' x with
      | none => none
      | some a => some (a.kind, lay p' a)
  | [], k, p, x => by
    simp only [List.nil_append, runA]
  | l :: r, k, p, x => by
    simp only [List.cons_append, runA]
    cases actB k l with
    | none => rfl
    | some a => exact runA_snoc lay r a.kind (lay p a) x
theorem runA_bad (lay : PD → Act → PD) {x : List UInt8} : ∀ {ls : List (List UInt8)} {rs : List (List UInt8)} {k k' : Nat} {p p' : PD}, runA lay k p ls = some (k', p') → actB k' x = none → runA lay k p (ls ++ x :: rs) = none
  | [], rs, k, k', p, p', h, hx => by
    simp only [runA, Option.some.injEq, Prod.mk.injEq] at h
    obtain ⟨rfl, rfl⟩ := h
    simp only [List.nil_append, runA, hx]
  | l :: r, rs, k, k', p, p', h, hx => by
    simp only [List.cons_append, runA] at h ⊢
    cases ha : actB k l with
    | none => simp [ha] at h
    | some a => simp only [ha] at h; exact runA_bad lay h hx

/-! The whole plan. -/
def ontoD (cs : List (List O3)) (o : O3) : List (List O3) := (onto cs o).getD cs
def layF (p : PD) : Act → PD
  | .tick n => ⟨p.code, n, p.spans, p.wires⟩
  | .span s => ⟨p.code, p.ticks, p.spans ++ [s], p.wires⟩
  | .wire x => ⟨p.code, p.ticks, p.spans, p.wires ++ [x]⟩
  | .room => ⟨p.code ++ [[]], p.ticks, p.spans, p.wires⟩
  | .op o => ⟨ontoD p.code o, p.ticks, p.spans, p.wires⟩

theorem body_word {u p : List UInt8} (h : bodyB u = some (p, [])) : u = p := by
  unfold bodyB at h
  cases hc : cutB 32 u with
  | nil => rw [hc] at h; cases h
  | cons q qs =>
    rw [hc] at h
    simp only at h
    cases hn : numsOf qs with
    | none => rw [hn] at h; cases h
    | some ns =>
      rw [hn] at h
      simp only [Option.map_some, Option.some.injEq, Prod.mk.injEq] at h
      obtain ⟨rfl, rfl⟩ := h
      have hl := numsOf_len hn
      have : qs = [] := List.eq_nil_of_length_eq_zero (by simpa using hl.symm)
      subst this
      have := cut_join 32 u [] q [] hc
      simpa using this
theorem named_frame : namedB wFrame = 0 := by decide
theorem named_span : namedB wSpan = 0 := by decide
theorem named_wire : namedB wWire = 0 := by decide
theorem named_room : namedB wRoom = 0 := by decide
theorem asm_zero (ns : List Int) : asm 0 ns = none := rfl
theorem opRead_of {u p : List UInt8} {ns : List Int} (h : bodyB u = some (p, ns)) : opRead (u ++ [10]) = asm (namedB p) ns := by
  unfold opRead
  rw [readB_snoc, h]
theorem opRead_no {u : List UInt8} (h : bodyB u = none) : opRead (u ++ [10]) = none := by
  unfold opRead
  rw [readB_snoc, h]
theorem actB_no {k : Nat} {u : List UInt8} (h : bodyB u = none) : actB k (u ++ [10]) = none := by
  unfold actB
  rw [readB_snoc, h]
theorem actB_of {k : Nat} {u p : List UInt8} {ns : List Int} (h : bodyB u = some (p, ns)) : actB k (u ++ [10]) = if p = wFrame then actF k ns else if p = wSpan then actS k ns else if p = wWire then actW k ns else if p = wRoom then actR k ns else actO k (opRead (u ++ [10])) := by
  unfold actB
  rw [readB_snoc, h]
def spF (p : List UInt8) : List Int → Option S3
  | [a, b, c] => if p = wSpan then some (a, b, c) else none
  | _ => none
def wrF (p : List UInt8) : List Int → Option W4
  | [a, b, c, d] => if p = wWire then some (a, b, c, d) else none
  | _ => none
def frF (p : List UInt8) : List Int → Option Int
  | [a] => if p = wFrame then some a else none
  | _ => none
theorem spanOf_of {u p : List UInt8} {ns : List Int} (h : bodyB u = some (p, ns)) : spanOf u = spF p ns := by
  unfold spanOf
  rw [h]
  rcases ns with _ | ⟨a, _ | ⟨b, _ | ⟨c, _ | ⟨d, r⟩⟩⟩⟩ <;> rfl
theorem wireOf_of {u p : List UInt8} {ns : List Int} (h : bodyB u = some (p, ns)) : wireOf u = wrF p ns := by
  unfold wireOf
  rw [h]
  rcases ns with _ | ⟨a, _ | ⟨b, _ | ⟨c, _ | ⟨d, _ | ⟨e, r⟩⟩⟩⟩⟩ <;> rfl
theorem frameOf_of {u p : List UInt8} {ns : List Int} (h : bodyB u = some (p, ns)) : frameOf u = frF p ns := by
  unfold frameOf
  rw [h]
  rcases ns with _ | ⟨a, _ | ⟨b, r⟩⟩ <;> rfl

/-- What a line is to the document, where rooms may come. -/
theorem act_room {u : List UInt8} (k : Nat) (hk : 1 ≤ k) (h : u = wRoom) : actB k (u ++ [10]) = some .room := by
  subst h
  rw [actB_of room_body, if_neg (by decide), if_neg (by decide), if_neg (by decide), if_pos rfl]
  unfold actR
  simp only
  rw [if_pos hk]
/-- A line in a room: another room, an op, or none. -/
theorem act_four {u : List UInt8} (hr : u ≠ wRoom) : actB 4 (u ++ [10]) = match opRead (u ++ [10]) with
    | none => none
    | some o => some (.op o) := by
  cases hb : bodyB u with
  | none => rw [actB_no hb, opRead_no hb]
  | some x =>
    obtain ⟨p, ns⟩ := x
    rw [actB_of hb]
    by_cases h1 : p = wFrame
    · rw [if_pos h1, opRead_of hb, h1, named_frame, asm_zero]
      unfold actF
      rcases ns with _ | ⟨a, _ | ⟨b, r⟩⟩ <;> rfl
    rw [if_neg h1]
    by_cases h2 : p = wSpan
    · rw [if_pos h2, opRead_of hb, h2, named_span, asm_zero]
      unfold actS
      rcases ns with _ | ⟨a, _ | ⟨b, _ | ⟨c, _ | ⟨d, r⟩⟩⟩⟩ <;> rfl
    rw [if_neg h2]
    by_cases h3 : p = wWire
    · rw [if_pos h3, opRead_of hb, h3, named_wire, asm_zero]
      unfold actW
      rcases ns with _ | ⟨a, _ | ⟨b, _ | ⟨c, _ | ⟨d, _ | ⟨e, r⟩⟩⟩⟩⟩ <;> rfl
    rw [if_neg h3]
    by_cases h4 : p = wRoom
    · rw [if_pos h4, opRead_of hb, h4, named_room, asm_zero]
      cases ns with
      | nil => rw [h4] at hb; exact absurd (body_word hb) hr
      | cons a r => rfl
    rw [if_neg h4]
    unfold actO
    cases opRead (u ++ [10]) with
    | none => rfl
    | some o => rfl
/-- Ahead of the rooms: a line that is no room, no wire (and, with spans still to come, no span) is none. -/
theorem act_three {u : List UInt8} (hr : u ≠ wRoom) (hw : wireOf u = none) : actB 3 (u ++ [10]) = none := by
  cases hb : bodyB u with
  | none => rw [actB_no hb]
  | some x =>
    obtain ⟨p, ns⟩ := x
    rw [actB_of hb]
    rw [wireOf_of hb] at hw
    unfold wrF at hw
    by_cases h1 : p = wFrame
    · rw [if_pos h1]
      unfold actF
      rcases ns with _ | ⟨a, _ | ⟨b, r⟩⟩ <;> rfl
    rw [if_neg h1]
    by_cases h2 : p = wSpan
    · rw [if_pos h2]
      unfold actS
      rcases ns with _ | ⟨a, _ | ⟨b, _ | ⟨c, _ | ⟨d, r⟩⟩⟩⟩ <;> rfl
    rw [if_neg h2]
    by_cases h3 : p = wWire
    · rw [if_pos h3]
      unfold actW
      rcases ns with _ | ⟨a, _ | ⟨b, _ | ⟨c, _ | ⟨d, _ | ⟨e, r⟩⟩⟩⟩⟩
      all_goals first
        | rfl
        | (simp only [h3, if_true] at hw; cases hw)
    rw [if_neg h3]
    by_cases h4 : p = wRoom
    · rw [if_pos h4]
      cases ns with
      | nil => rw [h4] at hb; exact absurd (body_word hb) hr
      | cons a r => rfl
    rw [if_neg h4]
    unfold actO
    cases opRead (u ++ [10]) with
    | none => rfl
    | some o => rfl
theorem act_wire {u : List UInt8} {x : W4} (k : Nat) (hk : 1 ≤ k ∧ k ≤ 3) (hw : wireOf u = some x) : actB k (u ++ [10]) = some (.wire x) := by
  cases hb : bodyB u with
  | none =>
    unfold wireOf at hw
    rw [hb] at hw
    cases hw
  | some y =>
    obtain ⟨p, ns⟩ := y
    rw [actB_of hb]
    rw [wireOf_of hb] at hw
    unfold wrF at hw
    rcases ns with _ | ⟨a, _ | ⟨b, _ | ⟨c, _ | ⟨d, _ | ⟨e, r⟩⟩⟩⟩⟩
    all_goals simp only at hw
    all_goals first
      | (cases hw; done)
      | skip
    by_cases h3 : p = wWire
    · rw [if_pos h3] at hw
      obtain rfl := Option.some.inj hw
      rw [h3, if_neg (by decide), if_neg (by decide), if_pos rfl]
      unfold actW
      simp only
      rw [if_pos hk]
    · rw [if_neg h3] at hw
      cases hw
theorem act_span {u : List UInt8} {x : S3} (k : Nat) (hk : 1 ≤ k ∧ k ≤ 2) (hw : spanOf u = some x) : actB k (u ++ [10]) = some (.span x) := by
  cases hb : bodyB u with
  | none =>
    unfold spanOf at hw
    rw [hb] at hw
    cases hw
  | some y =>
    obtain ⟨p, ns⟩ := y
    rw [actB_of hb]
    rw [spanOf_of hb] at hw
    unfold spF at hw
    rcases ns with _ | ⟨a, _ | ⟨b, _ | ⟨c, _ | ⟨d, r⟩⟩⟩⟩
    all_goals simp only at hw
    all_goals first
      | (cases hw; done)
      | skip
    by_cases h3 : p = wSpan
    · rw [if_pos h3] at hw
      obtain rfl := Option.some.inj hw
      rw [h3, if_neg (by decide), if_pos rfl]
      unfold actS
      simp only
      rw [if_pos hk]
    · rw [if_neg h3] at hw
      cases hw
theorem act_two {u : List UInt8} (k : Nat) (hk : 1 ≤ k ∧ k ≤ 2) (hr : u ≠ wRoom) (hw : wireOf u = none) (hs : spanOf u = none) : actB k (u ++ [10]) = none := by
  cases hb : bodyB u with
  | none => rw [actB_no hb]
  | some x =>
    obtain ⟨p, ns⟩ := x
    rw [actB_of hb]
    rw [wireOf_of hb] at hw
    unfold wrF at hw
    rw [spanOf_of hb] at hs
    unfold spF at hs
    by_cases h1 : p = wFrame
    · rw [if_pos h1]
      unfold actF
      rcases ns with _ | ⟨a, _ | ⟨b, r⟩⟩
      all_goals first
        | rfl
        | (simp only; rw [if_neg (by omega)])
    rw [if_neg h1]
    by_cases h2 : p = wSpan
    · rw [if_pos h2]
      unfold actS
      rcases ns with _ | ⟨a, _ | ⟨b, _ | ⟨c, _ | ⟨d, r⟩⟩⟩⟩
      all_goals first
        | rfl
        | (simp only [h2, if_true] at hs; cases hs)
    rw [if_neg h2]
    by_cases h3 : p = wWire
    · rw [if_pos h3]
      unfold actW
      rcases ns with _ | ⟨a, _ | ⟨b, _ | ⟨c, _ | ⟨d, _ | ⟨e, r⟩⟩⟩⟩⟩
      all_goals first
        | rfl
        | (simp only [h3, if_true] at hw; cases hw)
    rw [if_neg h3]
    by_cases h4 : p = wRoom
    · rw [if_pos h4]
      cases ns with
      | nil => rw [h4] at hb; exact absurd (body_word hb) hr
      | cons a r => rfl
    rw [if_neg h4]
    unfold actO
    cases opRead (u ++ [10]) with
    | none => rfl
    | some o => simp only; rw [if_neg (by omega)]
theorem act_frame {u : List UInt8} {n : Int} (h : frameOf u = some n) : actB 0 (u ++ [10]) = some (.tick n) := by
  cases hb : bodyB u with
  | none =>
    unfold frameOf at h
    rw [hb] at h
    cases h
  | some y =>
    obtain ⟨p, ns⟩ := y
    rw [actB_of hb]
    rw [frameOf_of hb] at h
    unfold frF at h
    rcases ns with _ | ⟨a, _ | ⟨b, r⟩⟩
    all_goals simp only at h
    all_goals first
      | (cases h; done)
      | skip
    by_cases h3 : p = wFrame
    · rw [if_pos h3] at h
      obtain rfl := Option.some.inj h
      rw [if_pos h3]
      rfl
    · rw [if_neg h3] at h
      cases h
theorem act_zero {u : List UInt8} (h : frameOf u = none) : actB 0 (u ++ [10]) = none := by
  cases hb : bodyB u with
  | none => rw [actB_no hb]
  | some x =>
    obtain ⟨p, ns⟩ := x
    rw [actB_of hb]
    rw [frameOf_of hb] at h
    unfold frF at h
    by_cases h1 : p = wFrame
    · rw [if_pos h1]
      unfold actF
      rcases ns with _ | ⟨a, _ | ⟨b, r⟩⟩
      all_goals first
        | rfl
        | (simp only [h1, if_true] at h; cases h)
    rw [if_neg h1]
    by_cases h2 : p = wSpan
    · rw [if_pos h2]
      unfold actS
      rcases ns with _ | ⟨a, _ | ⟨b, _ | ⟨c, _ | ⟨d, r⟩⟩⟩⟩ <;> rfl
    rw [if_neg h2]
    by_cases h3 : p = wWire
    · rw [if_pos h3]
      unfold actW
      rcases ns with _ | ⟨a, _ | ⟨b, _ | ⟨c, _ | ⟨d, _ | ⟨e, r⟩⟩⟩⟩⟩ <;> rfl
    rw [if_neg h3]
    by_cases h4 : p = wRoom
    · rw [if_pos h4]
      cases ns with
      | nil => rfl
      | cons a r => rfl
    rw [if_neg h4]
    unfold actO
    cases opRead (u ++ [10]) with
    | none => rfl
    | some o => rfl

abbrev nl (u : List UInt8) : List UInt8 := u ++ [10]
theorem run_four : ∀ (ls : List (List UInt8)) (p : PD), p.code ≠ [] → (runA layF 4 p (ls.map nl)).map (·.2) = (roomsOf p.code ls).map fun cs => ⟨cs, p.ticks, p.spans, p.wires⟩
  | [], p, _ => rfl
  | u :: r, p, hp => by
    simp only [List.map_cons, runA, roomsOf]
    by_cases hu : u = wRoom
    · rw [show nl u = u ++ [10] from rfl, act_room 4 (by omega) hu, if_pos hu]
      exact run_four r (layF p .room) (by simp [layF])
    · rw [show nl u = u ++ [10] from rfl, act_four hu, if_neg hu]
      cases opRead (u ++ [10]) with
      | none => rfl
      | some o =>
        simp only
        cases ho : onto p.code o with
        | none =>
          exfalso
          unfold onto at ho
          cases hl : p.code.getLast? with
          | none => exact hp (by simpa using hl)
          | some c => rw [hl] at ho; cases ho
        | some a =>
          simp only
          have ha : a ≠ [] := by
            unfold onto at ho
            cases hl : p.code.getLast? with
            | none => rw [hl] at ho; cases ho
            | some c => rw [hl] at ho; simp only [Option.some.injEq] at ho; rw [← ho]; simp
          have e : layF p (.op o) = ⟨a, p.ticks, p.spans, p.wires⟩ := by
            show PD.mk (ontoD p.code o) _ _ _ = _
            unfold ontoD
            rw [ho]
            rfl
          rw [e]
          exact run_four r ⟨a, p.ticks, p.spans, p.wires⟩ ha
theorem rooms_first {u : List UInt8} (hu : u ≠ wRoom) (r : List (List UInt8)) : roomsOf [] (u :: r) = none := by
  simp only [roomsOf]
  rw [if_neg hu]
  cases opRead (u ++ [10]) with
  | none => rfl
  | some o => rfl
theorem run_three : ∀ (ls : List (List UInt8)) (p : PD), p.code = [] → (runA layF 3 p (ls.map nl)).map (·.2) = (roomsOf [] (takeF wireOf ls).2).map fun cs => ⟨cs, p.ticks, p.spans, p.wires ++ (takeF wireOf ls).1⟩
  | [], p, hp => by
    obtain ⟨c, n, s, x⟩ := p
    simp only at hp
    subst hp
    simp [runA, takeF, roomsOf]
  | u :: r, p, hp => by
    cases hw : wireOf u with
    | some x =>
      rw [takeF_yes hw]
      simp only [List.map_cons, runA]
      rw [show nl u = u ++ [10] from rfl, act_wire 3 (by omega) hw]
      have := run_three r (layF p (.wire x)) hp
      simpa [layF, Act.kind] using this
    | none =>
      rw [takeF_no hw]
      simp only [List.map_cons, runA, List.append_nil]
      by_cases hu : u = wRoom
      · rw [show nl u = u ++ [10] from rfl, act_room 3 (by omega) hu]
        have := run_four r (layF p .room) (by simp [layF])
        simp only [Act.kind] at this ⊢
        rw [this, roomsOf, if_pos hu]
        simp [layF, hp]
      · rw [show nl u = u ++ [10] from rfl, act_three hu hw, rooms_first hu]
        rfl
theorem run_two : ∀ (ls : List (List UInt8)) (k : Nat) (p : PD), (1 ≤ k ∧ k ≤ 2) → p.code = [] → p.wires = [] → (runA layF k p (ls.map nl)).map (·.2) = (roomsOf [] (takeF wireOf (takeF spanOf ls).2).2).map fun cs => ⟨cs, p.ticks, p.spans ++ (takeF spanOf ls).1, (takeF wireOf (takeF spanOf ls).2).1⟩
  | [], k, p, hk, hp, hq => by
    obtain ⟨c, n, s, x⟩ := p
    simp only at hp hq
    subst hp
    subst hq
    simp [runA, takeF, roomsOf]
  | u :: r, k, p, hk, hp, hq => by
    cases hs : spanOf u with
    | some x =>
      rw [takeF_yes hs]
      simp only [List.map_cons, runA]
      rw [show nl u = u ++ [10] from rfl, act_span k hk hs]
      have := run_two r 2 (layF p (.span x)) (by omega) hp hq
      simpa [layF, Act.kind] using this
    | none =>
      rw [takeF_no hs]
      simp only [List.append_nil]
      cases hw : wireOf u with
      | some x =>
        rw [takeF_yes hw]
        simp only [List.map_cons, runA]
        rw [show nl u = u ++ [10] from rfl, act_wire k (by omega) hw]
        have := run_three r (layF p (.wire x)) hp
        simpa [layF, Act.kind, hq] using this
      | none =>
        rw [takeF_no hw]
        simp only [List.map_cons, runA]
        by_cases hu : u = wRoom
        · rw [show nl u = u ++ [10] from rfl, act_room k hk.1 hu]
          have := run_four r (layF p .room) (by simp [layF])
          simp only [Act.kind] at this ⊢
          rw [this, roomsOf, if_pos hu]
          simp [layF, hp, hq]
        · rw [show nl u = u ++ [10] from rfl, act_two k hk hu hw hs, rooms_first hu]
          rfl
theorem run_plan (u : List UInt8) (ls : List (List UInt8)) : (runA layF 0 PD.none ((u :: ls).map nl)).map (·.2) = planOf (u :: ls) := by
  simp only [List.map_cons, runA, planOf]
  cases hf : frameOf u with
  | none => rw [show nl u = u ++ [10] from rfl, act_zero hf]; rfl
  | some n =>
    rw [show nl u = u ++ [10] from rfl, act_frame hf]
    have := run_two ls 1 (layF PD.none (.tick n)) (by omega) rfl rfl
    simp only [Act.kind] at this ⊢
    rw [this]
    cases roomsOf [] (takeF wireOf (takeF spanOf ls).2).2 with
    | none => rfl
    | some cs => simp [layF, PD.none]
end Go.Proofs.YtamnfadngbbaeacGreatDoor
namespace Go.Proofs.YtamnfadngbbaeacGreatDoor

def ontoT (cs : List (List O3)) (o : O3) : List (List O3) := match cs.getLast? with
  | none => cs
  | some c => if 20 < c.length then cs else ontoD cs o
def layT (p : PD) : Act → PD
  | .tick n => ⟨p.code, n, p.spans, p.wires⟩
  | .span s => ⟨p.code, p.ticks, if 12 < p.spans.length then p.spans else p.spans ++ [s], p.wires⟩
  | .wire x => ⟨p.code, p.ticks, p.spans, if 12 < p.wires.length then p.wires else p.wires ++ [x]⟩
  | .room => ⟨if 5 < p.code.length then p.code else p.code ++ [[]], p.ticks, p.spans, p.wires⟩
  | .op o => ⟨ontoT p.code o, p.ticks, p.spans, p.wires⟩
structure Rel (d p : PD) : Prop where
  ticks : d.ticks = p.ticks
  spans : d.spans = p.spans.take 13
  wires : d.wires = p.wires.take 13
  code : (p.code.length ≤ 5 ∧ d.code = p.code.map (·.take 21)) ∨ (5 < p.code.length ∧ d.code.length = 6)
theorem take_onto {α : Type} (l : List α) (x : α) (m : Nat) : (l ++ [x]).take (m + 1) = if m < (l.take (m + 1)).length then l.take (m + 1) else l.take (m + 1) ++ [x] := by
  by_cases h : m < l.length
  · rw [if_pos (by rw [List.length_take]; omega), List.take_append_of_le_length (by omega)]
  · rw [if_neg (by rw [List.length_take]; omega), List.take_of_length_le (by simp; omega), List.take_of_length_le (by omega)]
theorem onto_concat (l : List (List O3)) (c : List O3) (o : O3) : onto (l ++ [c]) o = some (l ++ [c ++ [o]]) := by
  simp [onto]
theorem ontoD_concat (l : List (List O3)) (c : List O3) (o : O3) : ontoD (l ++ [c]) o = l ++ [c ++ [o]] := by
  unfold ontoD
  rw [onto_concat]
  rfl
theorem ontoT_concat (l : List (List O3)) (c : List O3) (o : O3) : ontoT (l ++ [c]) o = if 20 < c.length then l ++ [c] else l ++ [c ++ [o]] := by
  unfold ontoT
  rw [List.getLast?_concat]
  simp only
  rw [ontoD_concat]
theorem ontoD_len (cs : List (List O3)) (o : O3) : (ontoD cs o).length = cs.length := by
  rcases List.eq_nil_or_concat cs with rfl | ⟨l, c, rfl⟩
  · rfl
  · rw [List.concat_eq_append, ontoD_concat]
    simp
theorem ontoT_len (cs : List (List O3)) (o : O3) : (ontoT cs o).length = cs.length := by
  unfold ontoT
  split
  · rfl
  · split
    · rfl
    · exact ontoD_len cs o
theorem rel_lay {d p : PD} (h : Rel d p) (a : Act) : Rel (layT d a) (layF p a) := by
  obtain ⟨h1, h2, h3, h4⟩ := h
  cases a with
  | tick n => exact ⟨rfl, h2, h3, h4⟩
  | span s =>
    refine ⟨h1, ?_, h3, h4⟩
    show (if 12 < d.spans.length then d.spans else d.spans ++ [s]) = (p.spans ++ [s]).take 13
    rw [take_onto p.spans s 12, h2]
  | wire s =>
    refine ⟨h1, h2, ?_, h4⟩
    show (if 12 < d.wires.length then d.wires else d.wires ++ [s]) = (p.wires ++ [s]).take 13
    rw [take_onto p.wires s 12, h3]
  | room =>
    refine ⟨h1, h2, h3, ?_⟩
    show ((p.code ++ [[]]).length ≤ 5 ∧ (if 5 < d.code.length then d.code else d.code ++ [[]]) = (p.code ++ [[]]).map (fun c : List O3 => c.take 21)) ∨ (5 < (p.code ++ [[]]).length ∧ (if 5 < d.code.length then d.code else d.code ++ [[]]).length = 6)
    rcases h4 with ⟨h5, h6⟩ | ⟨h5, h6⟩
    · have hl : d.code.length = p.code.length := by rw [h6]; simp
      rw [if_neg (by omega)]
      by_cases h7 : p.code.length = 5
      · exact Or.inr ⟨by simp; omega, by simp; omega⟩
      · exact Or.inl ⟨by simp; omega, by rw [h6]; simp⟩
    · rw [if_pos (by omega)]
      exact Or.inr ⟨by simp; omega, h6⟩
  | op o =>
    refine ⟨h1, h2, h3, ?_⟩
    show ((ontoD p.code o).length ≤ 5 ∧ ontoT d.code o = (ontoD p.code o).map (·.take 21)) ∨ (5 < (ontoD p.code o).length ∧ (ontoT d.code o).length = 6)
    rw [ontoD_len, ontoT_len]
    rcases h4 with ⟨h5, h6⟩ | ⟨h5, h6⟩
    · refine Or.inl ⟨h5, ?_⟩
      rw [h6]
      rcases List.eq_nil_or_concat p.code with he | ⟨l, c, he⟩
      · rw [he]; rfl
      · rw [he, List.concat_eq_append, ontoD_concat]
        simp only [List.map_append, List.map_cons, List.map_nil]
        rw [ontoT_concat, take_onto c o 20]
        split <;> rfl
    · exact Or.inr ⟨h5, h6⟩
theorem run_rel : ∀ (ls : List (List UInt8)) (k : Nat) (d p : PD), Rel d p → (runA layF k p ls = none ∧ runA layT k d ls = none) ∨ ∃ k' p' d', runA layF k p ls = some (k', p') ∧ runA layT k d ls = some (k', d') ∧ Rel d' p'
  | [], k, d, p, h => Or.inr ⟨k, p, d, rfl, rfl, h⟩
  | l :: r, k, d, p, h => by
    simp only [runA]
    cases ha : actB k l with
    | none => exact Or.inl ⟨rfl, rfl⟩
    | some a => exact run_rel r a.kind _ _ (rel_lay h a)
theorem fchk_cut (n : Int) (l : List S3) : fchk n (l.take 13) = fchk n l := by
  by_cases h : l.length ≤ 13
  · rw [List.take_of_length_le h]
  · by_cases h1 : n < 1 ∨ 40 < n
    · rw [fchk_lo h1, fchk_lo h1]
    · rw [fchk_long h1 (l := l) (by omega), fchk_long h1 (l := l.take 13) (by rw [List.length_take]; omega)]
theorem wschk_cut (l : List W4) : wschk (l.take 13) = wschk l := by
  by_cases h : l.length ≤ 13
  · rw [List.take_of_length_le h]
  · unfold wschk
    rw [if_pos (show 12 < l.length by omega), if_pos (by rw [List.length_take]; omega)]
theorem codesE_cut : ∀ (l : List (List O3)), codesE (l.map (·.take 21)) = codesE l
  | [] => rfl
  | c :: r => by
    rw [List.map_cons, codesE, codesE, chk_take, codesE_cut r]
theorem codes_cut : ∀ {l : List (List O3)}, codesE l = 0 → l.map (·.take 21) = l
  | [], _ => rfl
  | c :: r, h => by
    have hc : (chk c).2 = 0 := codesE_zero h c (by simp)
    rw [codesE, if_pos hc] at h
    rw [List.map_cons, codes_cut h, take_ok hc]
theorem plchk_rel {d p : PD} (h : Rel d p) : plchk d = plchk p ∧ (plchk p = 0 → d = p) := by
  obtain ⟨h1, h2, h3, h4⟩ := h
  have hf : fchk d.ticks d.spans = fchk p.ticks p.spans := by rw [h1, h2, fchk_cut]
  have hw : wschk d.wires = wschk p.wires := by rw [h3, wschk_cut]
  rcases h4 with ⟨h5, h6⟩ | ⟨h5, h6⟩
  · have hl : d.code.length = p.code.length := by rw [h6]; simp
    by_cases h0 : p.code.length = 0
    · rw [plchk_none h0, plchk_none (hl.trans h0)]
      exact ⟨rfl, fun e => by cases e⟩
    by_cases hfz : (fchk p.ticks p.spans).2 = 0
    · by_cases hwz : (wschk p.wires).2 = 0
      · have hs : d.spans = p.spans := by rw [h2]; exact List.take_of_length_le (by have := (fchk_zero hfz).2.2.1; omega)
        have hx : d.wires = p.wires := by rw [h3]; exact List.take_of_length_le (by have := (wschk_ok hwz).1; omega)
        by_cases a1 : p.spans.any (spanOut p.code.length) = true
        · rw [plchk_span h5 h0 hfz hwz a1, plchk_span (by omega) (by omega) (by rw [hf]; exact hfz) (by rw [hw]; exact hwz) (by rw [hs, hl]; exact a1)]
          exact ⟨rfl, fun e => by cases e⟩
        have a1' : p.spans.any (spanOut p.code.length) = false := by simpa using a1
        by_cases a2 : p.wires.any (wireOut p.code.length) = true
        · rw [plchk_wire h5 h0 hfz hwz a1' a2, plchk_wire (by omega) (by omega) (by rw [hf]; exact hfz) (by rw [hw]; exact hwz) (by rw [hs, hl]; exact a1') (by rw [hx, hl]; exact a2)]
          exact ⟨rfl, fun e => by cases e⟩
        have a2' : p.wires.any (wireOut p.code.length) = false := by simpa using a2
        rw [plchk_tail h5 h0 hfz hwz a1' a2', plchk_tail (by omega) (by omega) (by rw [hf]; exact hfz) (by rw [hw]; exact hwz) (by rw [hs, hl]; exact a1') (by rw [hx, hl]; exact a2')]
        have hcE : codesE d.code = codesE p.code := by rw [h6, codesE_cut]
        rw [hcE]
        by_cases hc : codesE p.code = 0
        · have hcd : d.code = p.code := by rw [h6, codes_cut hc]
          rw [hcd, hx]
          refine ⟨rfl, fun _ => ?_⟩
          obtain ⟨dc, dn, ds, dw⟩ := d
          obtain ⟨pc, pn, ps, pw⟩ := p
          simp only at h1 hs hx hcd
          rw [h1, hs, hx, hcd]
        · rw [if_pos hc, if_pos hc]
          exact ⟨rfl, fun e => absurd e hc⟩
      · rw [plchk_wires h5 h0 hfz hwz, plchk_wires (by omega) (by omega) (by rw [hf]; exact hfz) (by rw [hw]; exact hwz), hw]
        exact ⟨rfl, fun e => absurd e hwz⟩
    · rw [plchk_frame h5 h0 hfz, plchk_frame (by omega) (by omega) (by rw [hf]; exact hfz), hf]
      exact ⟨rfl, fun e => absurd e hfz⟩
  · rw [plchk_long h5, plchk_long (by omega)]
    exact ⟨rfl, fun e => by cases e⟩
theorem planR_rel {d p : PD} (h : Rel d p) : planR (some d) = planR (some p) := by
  obtain ⟨h1, h2⟩ := plchk_rel h
  by_cases h0 : plchk p = 0
  · rw [h2 h0]
  · rw [planR_bad h0, planR_bad (by rw [h1]; exact h0), h1]
theorem kind_pos (a : Act) : 1 ≤ a.kind ∧ a.kind ≤ 4 := by cases a <;> simp [Act.kind]
theorem run_pos (lay : PD → Act → PD) : ∀ (ls : List (List UInt8)) (k k' : Nat) (p p' : PD), 1 ≤ k → runA lay k p ls = some (k', p') → 1 ≤ k'
  | [], k, k', p, p', hk, h => by
    simp only [runA, Option.some.injEq, Prod.mk.injEq] at h
    omega
  | l :: r, k, k', p, p', hk, h => by
    simp only [runA] at h
    cases ha : actB k l with
    | none => simp [ha] at h
    | some a => simp only [ha] at h; exact run_pos lay r a.kind k' _ p' (kind_pos a).1 h
theorem rel_none : Rel PD.none PD.none := ⟨rfl, rfl, rfl, Or.inl ⟨by simp [PD.none], rfl⟩⟩
/-- What a text is as a plan, by its lines. -/
theorem plan_byline (t : List UInt8) : (runA layT 0 PD.none (linesB t) = none → planP t = (PD.none, 2)) ∧ ∀ k d, runA layT 0 PD.none (linesB t) = some (k, d) → (k = 0 → planP t = (PD.none, 2)) ∧ (k ≠ 0 → planP t = planR (some d)) := by
  obtain ⟨ps, q, h1, h2, h3⟩ := cut_lines t [] (by simp)
  have hl : linesB t = ps.map nl ++ (if q = [] then [] else [q]) := h3
  by_cases hq : q = []
  · rw [if_pos hq, List.append_nil] at hl
    subst hq
    rw [planP_shut h1, hl]
    cases ps with
    | nil =>
      refine ⟨fun h => (by cases h), fun k d h => ?_⟩
      simp only [List.map_nil, runA, Option.some.injEq, Prod.mk.injEq] at h
      obtain ⟨rfl, rfl⟩ := h
      exact ⟨fun _ => rfl, fun h => absurd rfl h⟩
    | cons u r =>
      have hp := run_plan u r
      rcases run_rel ((u :: r).map nl) 0 PD.none PD.none rel_none with ⟨e1, e2⟩ | ⟨k', p', d', e1, e2, e3⟩
      · rw [e1] at hp
        rw [e2, ← hp]
        exact ⟨fun _ => rfl, fun k d h => by cases h⟩
      · rw [e1] at hp
        rw [e2, ← hp]
        refine ⟨fun h => (by cases h), fun k d h => ?_⟩
        simp only [Option.some.injEq, Prod.mk.injEq] at h
        obtain ⟨rfl, rfl⟩ := h
        have hk : 1 ≤ k' := by
          simp only [List.map_cons, runA] at e1
          cases ha : actB 0 (nl u) with
          | none => simp [ha] at e1
          | some a => simp only [ha] at e1; exact run_pos layF (r.map nl) a.kind k' _ p' (kind_pos a).1 e1
        exact ⟨fun h => by omega, fun _ => (planR_rel e3).symm⟩
  · rw [if_neg hq] at hl
    rw [planP_open h1 hq]
    refine ⟨fun _ => rfl, fun k d h => ?_⟩
    exfalso
    rw [hl] at h
    have hno : ∀ k', actB k' q = none := fun k' => by
      unfold actB
      rw [readB_none fun u e => h2 (by rw [e]; simp)]
    cases hr : runA layT 0 PD.none (ps.map nl) with
    | none =>
      rw [runA_snoc, hr] at h
      cases h
    | some x =>
      obtain ⟨k', d'⟩ := x
      rw [runA_bad layT hr (hno k')] at h
      cases h
/-- What a draft keeps to. -/
structure Kept (k : Nat) (d : PD) : Prop where
  le : k ≤ 4
  room : k = 4 → d.code ≠ []
  spans : d.spans.length ≤ 13
  wires : d.wires.length ≤ 13
  code : d.code.length ≤ 6
  ops : ∀ c ∈ d.code, c.length ≤ 21
theorem kept_none : Kept 0 PD.none := ⟨by omega, fun h => by omega, by simp [PD.none], by simp [PD.none], by simp [PD.none], fun c hc => by simp [PD.none] at hc⟩
theorem act_op {k : Nat} {l : List UInt8} {o : O3} (h : actB k l = some (.op o)) : k = 4 ∧ opRead l = some o := by
  unfold actB at h
  cases hr : readB l with
  | none => rw [hr] at h; cases h
  | some x =>
    obtain ⟨p, ns⟩ := x
    rw [hr] at h
    simp only at h
    by_cases h1 : p = wFrame
    · rw [if_pos h1] at h
      unfold actF at h
      split at h
      · split at h <;> cases h
      · cases h
    rw [if_neg h1] at h
    by_cases h2 : p = wSpan
    · rw [if_pos h2] at h
      unfold actS at h
      split at h
      · split at h <;> cases h
      · cases h
    rw [if_neg h2] at h
    by_cases h3 : p = wWire
    · rw [if_pos h3] at h
      unfold actW at h
      split at h
      · split at h <;> cases h
      · cases h
    rw [if_neg h3] at h
    by_cases h4 : p = wRoom
    · rw [if_pos h4] at h
      unfold actR at h
      split at h
      · split at h <;> cases h
      · cases h
    rw [if_neg h4] at h
    cases ho : opRead l with
    | none => rw [ho] at h; cases h
    | some o' =>
      rw [ho] at h
      simp only [actO] at h
      split at h
      · rename_i hk
        cases h
        exact ⟨hk, rfl⟩
      · cases h
theorem kept_lay {k : Nat} {d : PD} {l : List UInt8} {a : Act} (h : Kept k d) (ha : actB k l = some a) : Kept a.kind (layT d a) := by
  cases a with
  | tick n => exact ⟨by simp [Act.kind], fun e => by simp [Act.kind] at e, h.spans, h.wires, h.code, h.ops⟩
  | span s =>
    refine ⟨by simp [Act.kind], fun e => by simp [Act.kind] at e, ?_, h.wires, h.code, h.ops⟩
    show (if 12 < d.spans.length then d.spans else d.spans ++ [s]).length ≤ 13
    have := h.spans
    split
    · omega
    · simp; omega
  | wire s =>
    refine ⟨by simp [Act.kind], fun e => by simp [Act.kind] at e, h.spans, ?_, h.code, h.ops⟩
    show (if 12 < d.wires.length then d.wires else d.wires ++ [s]).length ≤ 13
    have := h.wires
    split
    · omega
    · simp; omega
  | room =>
    have hc := h.code
    refine ⟨by simp [Act.kind], fun _ => ?_, h.spans, h.wires, ?_, ?_⟩
    · show (if 5 < d.code.length then d.code else d.code ++ [[]]) ≠ []
      split
      · rename_i h5
        intro e
        rw [e] at h5
        simp at h5
      · simp
    · show (if 5 < d.code.length then d.code else d.code ++ [[]]).length ≤ 6
      split
      · omega
      · simp; omega
    · show ∀ c ∈ (if 5 < d.code.length then d.code else d.code ++ [[]]), c.length ≤ 21
      split
      · exact h.ops
      · intro c hcm
        rcases List.mem_append.1 hcm with hm | hm
        · exact h.ops c hm
        · simp at hm; subst hm; simp
  | op o =>
    obtain ⟨rfl, _⟩ := act_op ha
    have hne := h.room rfl
    refine ⟨by simp [Act.kind], fun _ => ?_, h.spans, h.wires, ?_, ?_⟩
    · show ontoT d.code o ≠ []
      intro e
      have := ontoT_len d.code o
      rw [e] at this
      exact hne (List.eq_nil_of_length_eq_zero this.symm)
    · show (ontoT d.code o).length ≤ 6
      rw [ontoT_len]
      exact h.code
    · show ∀ c ∈ ontoT d.code o, c.length ≤ 21
      have ho := h.ops
      rcases List.eq_nil_or_concat d.code with he | ⟨l', c', he⟩
      · exact absurd he hne
      · rw [he, List.concat_eq_append] at ho ⊢
        rw [ontoT_concat]
        intro c hcm
        split at hcm
        · exact ho c hcm
        · rcases List.mem_append.1 hcm with hm | hm
          · exact ho c (by simp [hm])
          · simp only [List.mem_singleton] at hm
            subst hm
            simp
            omega
end Go.Proofs.YtamnfadngbbaeacGreatDoor
