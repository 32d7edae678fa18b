/-
  StaysMath, KMath, KMath2, AlnM, KTouchL, KVal, AlnC, KSet, RLaid, St8, AKern, ACame: joined into one text.
-/
import Derived.Test.YtanndhamnfnjfaeDoorJa1
import Derived.Deep.MidRow
import Derived.ProofKit
import Derived.LaidMore
import Derived.OpenShut
import Derived.Stop.Joined
import Derived.Stop.LaidErr
import Derived.Lib.LaidTab
namespace Go.Proofs.YtanndhamnfnjfaeDoor

theorem upd_ok {c : Nat → Int} {a : Nat} {v : Int} (hc : ∀ i, i < 6 → 0 ≤ c i ∧ c i ≤ 999) (hv : 0 ≤ v ∧ v ≤ 999) : ∀ i, i < 6 → 0 ≤ upd c a v i ∧ upd c a v i ≤ 999 := by
  intro i hi
  unfold upd
  split
  · exact hv
  · exact hc i hi
theorem mod_ok (x : Int) : 0 ≤ x % 1000 ∧ x % 1000 ≤ 999 := by omega
theorem cellsF_ok {o : O3} {c : Nat → Int} {got : Int} {is : Bool} (hc : ∀ i, i < 6 → 0 ≤ c i ∧ c i ≤ 999) (h1 : o.1 = 1 → 0 ≤ o.2.2 ∧ o.2.2 ≤ 999) (h2 : o.1 = 2 → o.2.2.toNat < 6) (hg : is = true → 0 ≤ got ∧ got ≤ 999) : ∀ i, i < 6 → 0 ≤ cellsF o c got is i ∧ cellsF o c got is i ≤ 999 := by
  unfold cellsF
  split
  · rename_i h; exact upd_ok hc (h1 h)
  split
  · rename_i h; exact upd_ok hc (hc _ (h2 h))
  split
  · exact upd_ok hc (mod_ok _)
  split
  · exact upd_ok hc (mod_ok _)
  split
  · exact upd_ok hc (mod_ok _)
  split
  · split
    · rename_i h; exact upd_ok hc (hg h)
    · exact hc
  · exact hc
theorem cellsF_other {o : O3} {c : Nat → Int} {got : Int} {is : Bool} (i : Nat) (hi : i ≠ o.2.1.toNat) : cellsF o c got is i = c i := by
  unfold cellsF
  repeat' split
  all_goals first | rfl | exact upd_other _ _ hi
theorem cellsF_send {o : O3} {c : Nat → Int} {got : Int} {is : Bool} (h : o.1 = 8) : cellsF o c got is = c := by
  unfold cellsF
  rw [if_neg (by omega), if_neg (by omega), if_neg (by omega), if_neg (by omega), if_neg (by omega), if_neg (by omega)]
theorem cellsF_got {o : O3} {c : Nat → Int} {got got' : Int} {is is' : Bool} (h : o.1 ≠ 9) : cellsF o c got is = cellsF o c got' is' := by
  unfold cellsF
  simp only [if_neg h]
theorem nextF_got {o : O3} {s : St} {n : Nat} {is is' : Bool} (h : o.1 ≠ 9) : nextF o s n is = nextF o s n is' := by
  unfold nextF
  simp only [h, false_and]
theorem nextF_ok {o : O3} {s : St} {n : Nat} {is : Bool} (h0 : 0 ≤ s.p) (h1 : s.p < n) (hb : o.1 = 6 ∨ o.1 = 7 → 0 ≤ o.2.2 ∧ o.2.2 < n) : 0 ≤ nextF o s n is ∧ nextF o s n is < n := by
  unfold nextF
  split
  · rename_i h
    exact hb (by rcases h with h | h; exact Or.inr h; exact Or.inl h.1)
  split
  · exact ⟨h0, h1⟩
  split
  · omega
  · omega
theorem sentF_ok {o : O3} {c : Nat → Int} (hc : ∀ i, i < 6 → 0 ≤ c i ∧ c i ≤ 999) (ha : o.2.1.toNat < 6) : -1 ≤ sentF o c ∧ sentF o c ≤ 999 := by
  unfold sentF
  split
  · have := hc _ ha; omega
  · omega
theorem sentF_send {o : O3} {c : Nat → Int} (h : 0 ≤ sentF o c) : o.1 = 8 := by
  unfold sentF at h
  split at h
  · assumption
  · omega
end Go.Proofs.YtanndhamnfnjfaeDoor
namespace Go.Proofs.YtanndhamnfnjfaeDoor

/-- A line: its wire, what is there, what was lost. -/
structure LnD where
  w : W4
  xs : List Int
  ls : Int
def LnD.none : LnD := ⟨(0, 0, 0, 0), [], 0⟩
/-- What is there to be taken. -/
def headL (l : LnD) : Int × Bool := match l.xs with
  | [] => (0, false)
  | x :: _ => (x, true)
/-- Behind a take. -/
def restL (l : LnD) : LnD := match l.xs with
  | [] => l
  | _ :: ys => if l.w.2.2.1 = 2 then ⟨l.w, ys, l.ls⟩ else l
/-- Is what is sent there? -/
def fitL (l : LnD) : Bool := decide (l.w.2.2.1 = 1) || decide ((l.xs.length : Int) < l.w.2.2.2)
/-- Behind a send. -/
def putL (l : LnD) (n : Int) : LnD := if l.w.2.2.1 = 1 then ⟨l.w, [n], l.ls⟩ else if (l.xs.length : Int) < l.w.2.2.2 then ⟨l.w, l.xs ++ [n], l.ls⟩ else ⟨l.w, l.xs, l.ls + 1⟩
/-- A kernel: its rooms, its lines, its time. -/
structure KD where
  rooms : List St
  lines : List LnD
  time : Int
def stNew : St := ⟨0, fun _ => 0, false⟩
def newK (p : PD) : KD := ⟨p.code.map fun _ => stNew, p.wires.map fun x => ⟨x, [], 0⟩, 0⟩
def opAt (c : List O3) (s : St) : O3 := c.getD s.p.toNat (0, 0, 0)
def takesB (o : O3) (s : St) : Bool := !s.f && decide (o.1 = 9)
def lineAt (k : KD) (o : O3) : LnD := k.lines.getD o.2.2.toNat LnD.none
def gotK (k : KD) (o : O3) (s : St) : Int × Bool := if takesB o s = true then headL (lineAt k o) else (0, false)
/-- The lines behind what is taken. -/
def linesT (k : KD) (o : O3) (s : St) : List LnD := if takesB o s = true then k.lines.set o.2.2.toNat (restL (lineAt k o)) else k.lines
/-- .. and behind what is sent. -/
def linesS (ls : List LnD) (o : O3) (sent : Int) : List LnD := if 0 ≤ sent then ls.set o.2.2.toNat (putL (ls.getD o.2.2.toNat LnD.none) sent) else ls
/-- What came of it. -/
def cameK (ls : List LnD) (o : O3) (sent what : Int) : Int := if 0 ≤ sent ∧ fitL (ls.getD o.2.2.toNat LnD.none) = false then 3 else what
/-- A tick that a room has. -/
def turnK (p : PD) (k : KD) (r : Nat) : KD × Int × Int :=
  let c := p.code.getD r []
  let s := k.rooms.getD r stNew
  let o := opAt c s
  let g := gotK k o s
  (⟨k.rooms.set r (stepF o s c.length g.1 g.2), linesS (linesT k o s) o (sendF o s), k.time + 1⟩, s.p, cameK (linesT k o s) o (sendF o s) (whatF o s g.2))
/-- A tick; and what is told of it. -/
def tickK (p : PD) (sp : List S3) (k : KD) : KD × Int × Int × Int × Int :=
  let r := hold sp (k.time % p.ticks)
  if r < 0 then (⟨k.rooms, k.lines, k.time + 1⟩, k.time, r, 0, 0) else ((turnK p k r.toNat).1, k.time, r, (turnK p k r.toNat).2.1, (turnK p k r.toNat).2.2)

/-- A line that is right. -/
structure LnOk (l : LnD) (x : W4) : Prop where
  w : l.w = x
  xs : ∀ n ∈ l.xs, 0 ≤ n ∧ n ≤ 999
  one : x.2.2.1 = 1 → l.xs.length ≤ 1
  deep : x.2.2.1 = 2 → (l.xs.length : Int) ≤ x.2.2.2
  ls : 0 ≤ l.ls
/-- A kernel that is right. -/
structure KOk (p : PD) (k : KD) : Prop where
  rl : k.rooms.length = p.code.length
  ll : k.lines.length = p.wires.length
  rooms : ∀ (i : Nat) c s, p.code[i]? = some c → k.rooms[i]? = some s → stOk s c.length = true
  lines : ∀ (i : Nat) l x, k.lines[i]? = some l → p.wires[i]? = some x → LnOk l x
  lost : ∀ l ∈ k.lines, l.ls ≤ k.time
  time : 0 ≤ k.time
theorem any_of_all {α : Type} {f : α → Bool} {l : List α} (h : l.any f = false) {x : α} (hx : x ∈ l) : f x = false := by
  rw [List.any_eq_false] at h
  simpa using h x hx
theorem wiresB_mem {what : Int} {c : List O3} {o : O3} (ho : o ∈ c) (h1 : o.1 = what) (h2 : 0 ≤ o.2.2) (h3 : o.2.2 < 12) : o.2.2 ∈ wiresB what c := by
  unfold wiresB pickN
  rw [List.mem_map]
  refine ⟨o.2.2.toNat, ?_, by simp; omega⟩
  rw [List.mem_filter, List.mem_range'_1]
  refine ⟨by omega, List.any_eq_true.2 ⟨o, ho, ?_⟩⟩
  simp [onW, h1]
  omega
theorem port_wire {at' : W4 → Int} {ws : List W4} {i : Nat} {z : Int} (h : portB at' ws i z = false) : ∃ x, ws[z.toNat]? = some x ∧ at' x = (i : Int) := by
  unfold portB at h
  cases hx : ws[z.toNat]? with
  | none => rw [hx] at h; cases h
  | some x =>
    rw [hx] at h
    exact ⟨x, rfl, by simpa using h⟩
theorem portsAny_false : ∀ {ws : List W4} {l : List (List O3)} {i : Nat}, portsAny ws i l = false → ∀ (j : Nat) c, l[j]? = some c → portsB ws (i + j) c = false
  | ws, [], i, _, j, c, hc => by simp at hc
  | ws, x :: l, i, h, j, c, hc => by
    rw [portsAny, Bool.or_eq_false_iff] at h
    cases j with
    | zero => simp at hc; subst hc; exact h.1
    | succ j =>
      have := portsAny_false h.2 j c (by simpa using hc)
      rw [show i + (j + 1) = i + 1 + j by omega]
      exact this
/-- What a right plan says of an op that sends, or takes. -/
theorem op_wire {p : PD} (h : plchk p = 0) {r : Nat} {c : List O3} {o : O3} (hc : p.code[r]? = some c) (ho : o ∈ c) : (o.1 = 8 → ∃ x, p.wires[o.2.2.toNat]? = some x ∧ x.1 = (r : Int)) ∧ (o.1 = 9 → ∃ x, p.wires[o.2.2.toNat]? = some x ∧ x.2.1 = (r : Int)) := by
  obtain ⟨_, _, _, _, _, _, hcd, hpt⟩ := plchk_zero h
  have hck := codesE_zero hcd c (List.mem_of_getElem? hc)
  obtain ⟨_, hl20, hok⟩ := chk_zero hck
  have hr := ok3_range (hok o ho)
  have hp := portsAny_false hpt r c hc
  rw [Nat.zero_add] at hp
  unfold portsB at hp
  rw [Bool.or_eq_false_iff] at hp
  refine ⟨fun h8 => ?_, fun h9 => ?_⟩
  · have hb : 0 ≤ o.2.2 ∧ o.2.2 < 12 := by simp [h8, bB] at hr; omega
    exact port_wire (any_of_all hp.1 (wiresB_mem ho h8 hb.1 hb.2))
  · have hb : 0 ≤ o.2.2 ∧ o.2.2 < 12 := by simp [h9, bB] at hr; omega
    exact port_wire (any_of_all hp.2 (wiresB_mem ho h9 hb.1 hb.2))
theorem new_ok {p : PD} (h : plchk p = 0) : KOk p (newK p) := by
  obtain ⟨_, _, _, hw, _, _, hcd, _⟩ := plchk_zero h
  refine ⟨by simp [newK], by simp [newK], fun i c s hc hs => ?_, fun i l x hl hx => ?_, fun l hl => ?_, by simp [newK]⟩
  · simp only [newK, List.getElem?_map, hc, Option.map_some, Option.some.injEq] at hs
    subst hs
    have hck := chk_zero (codesE_zero hcd c (List.mem_of_getElem? hc))
    rw [stOk_iff]
    have := hck.1
    exact ⟨by simp [stNew], by simp [stNew]; omega, fun i _ => by simp [stNew]⟩
  · simp only [newK, List.getElem?_map, hx, Option.map_some, Option.some.injEq] at hl
    subst hl
    have := (wschk_ok hw).2 x (List.mem_of_getElem? hx)
    refine ⟨rfl, fun n hn => by simp at hn, fun _ => by simp, fun h2 => ?_, by simp⟩
    rcases wchk_kind this with ⟨h1, _⟩ | ⟨_, h3, _⟩
    · omega
    · simp
      omega
  · simp only [newK, List.mem_map] at hl
    obtain ⟨x, _, rfl⟩ := hl
    simp [newK]
end Go.Proofs.YtanndhamnfnjfaeDoor
namespace Go.Proofs.YtanndhamnfnjfaeDoor

theorem headL_ok {l : LnD} {x : W4} (h : LnOk l x) : (headL l).2 = true → 0 ≤ (headL l).1 ∧ (headL l).1 ≤ 999 := by
  unfold headL
  intro hh
  cases hx : l.xs with
  | nil => rw [hx] at hh; cases hh
  | cons n ys => exact h.xs n (by rw [hx]; simp)
theorem restL_ok {l : LnD} {x : W4} (h : LnOk l x) : LnOk (restL l) x := by
  unfold restL
  cases hx : l.xs with
  | nil => exact h
  | cons n ys =>
    simp only
    split
    · refine ⟨h.w, fun m hm => h.xs m (by rw [hx]; simp [hm]), fun h1 => ?_, fun h2 => ?_, h.ls⟩
      · have := h.one h1
        rw [hx, List.length_cons] at this
        simp only
        omega
      · have := h.deep h2
        rw [hx, List.length_cons] at this
        simp only
        omega
    · exact h
theorem restL_ls (l : LnD) : (restL l).ls = l.ls := by
  unfold restL
  split
  · rfl
  · split <;> rfl
theorem putL_ok {l : LnD} {x : W4} {n : Int} (h : LnOk l x) (hn : 0 ≤ n ∧ n ≤ 999) : LnOk (putL l n) x := by
  unfold putL
  split
  · rename_i h1
    rw [h.w] at h1
    exact ⟨h.w, fun m hm => by simp at hm; subst hm; exact hn, fun _ => by simp, fun h2 => by omega, h.ls⟩
  · rename_i h1
    rw [h.w] at h1
    split
    · rename_i h2
      rw [h.w] at h2
      refine ⟨h.w, fun m hm => ?_, fun h3 => absurd h3 h1, fun _ => by simp; omega, h.ls⟩
      rcases List.mem_append.1 hm with hm | hm
      · exact h.xs m hm
      · simp at hm; subst hm; exact hn
    · exact ⟨h.w, h.xs, fun h3 => absurd h3 h1, h.deep, by have := h.ls; simp; omega⟩
theorem putL_ls (l : LnD) (n : Int) : (putL l n).ls ≤ l.ls + 1 := by
  unfold putL
  split
  · simp only
    omega
  · split
    · simp only
      omega
    · simp
/-- Lines of which one is another one. -/
theorem lines_set {ls : List LnD} {ws : List W4} {j : Nat} {l' : LnD} (h : ∀ (i : Nat) l x, ls[i]? = some l → ws[i]? = some x → LnOk l x) (h' : ∀ x, ws[j]? = some x → LnOk l' x) : ∀ (i : Nat) l x, (ls.set j l')[i]? = some l → ws[i]? = some x → LnOk l x := fun i l x hl hx => by
  by_cases hij : j = i
  · subst hij
    have hlt : j < ls.length := by
      have := (List.getElem?_eq_some_iff.1 hl).1
      simpa using this
    rw [List.getElem?_set_self hlt] at hl
    obtain rfl := Option.some.inj hl
    exact h' x hx
  · rw [List.getElem?_set_ne hij] at hl
    exact h i l x hl hx
structure Turn (p : PD) (k : KD) (r : Nat) (c : List O3) (s : St) (o : O3) : Prop where
  hc : p.code[r]? = some c
  hs : k.rooms[r]? = some s
  ho : c[s.p.toNat]? = some o
  ck : (chk c).2 = 0
  st : stOk s c.length = true
  ok : ok3 c.length o = true
theorem turn_of {p : PD} {k : KD} (h : plchk p = 0) (hk : KOk p k) {r : Nat} (hr : r < p.code.length) : ∃ c s o, Turn p k r c s o := by
  obtain ⟨_, _, _, _, _, _, hcd, _⟩ := plchk_zero h
  have hc : p.code[r]? = some p.code[r] := List.getElem?_eq_getElem hr
  have hs : k.rooms[r]? = some (k.rooms[r]'(by rw [hk.rl]; exact hr)) := List.getElem?_eq_getElem _
  have hck := codesE_zero hcd _ (List.mem_of_getElem? hc)
  have hst := hk.rooms r _ _ hc hs
  have hp := stOk_iff.1 hst
  have hlt : (k.rooms[r]'(by rw [hk.rl]; exact hr)).p.toNat < p.code[r].length := by omega
  exact ⟨_, _, _, hc, hs, List.getElem?_eq_getElem hlt, hck, hst, (chk_zero hck).2.2 _ (List.getElem_mem hlt)⟩
theorem Turn.at {p : PD} {k : KD} {r : Nat} {c : List O3} {s : St} {o : O3} (h : Turn p k r c s o) : p.code.getD r [] = c ∧ k.rooms.getD r stNew = s ∧ opAt c s = o := by
  unfold opAt
  simp [List.getD, h.hc, h.hs, h.ho]
/-- What is there to be taken is a number of a room. -/
theorem got_ok {p : PD} {k : KD} (hp : plchk p = 0) (hk : KOk p k) {r : Nat} {c : List O3} {s : St} {o : O3} (h : Turn p k r c s o) : (gotK k o s).2 = true → 0 ≤ (gotK k o s).1 ∧ (gotK k o s).1 ≤ 999 := by
  unfold gotK
  split
  · rename_i ht
    unfold takesB at ht
    simp only [Bool.and_eq_true, decide_eq_true_eq] at ht
    obtain ⟨x, hx, _⟩ := (op_wire hp h.hc (List.mem_of_getElem? h.ho)).2 ht.2
    have hlt : o.2.2.toNat < k.lines.length := by rw [hk.ll]; exact (List.getElem?_eq_some_iff.1 hx).1
    have hl : k.lines[o.2.2.toNat]? = some k.lines[o.2.2.toNat] := List.getElem?_eq_getElem hlt
    have e : lineAt k o = k.lines[o.2.2.toNat] := by simp [lineAt, List.getD, hl]
    rw [e]
    exact headL_ok (hk.lines _ _ _ hl hx)
  · intro hh; cases hh
theorem stepK_ok {p : PD} {k : KD} {r : Nat} {c : List O3} {s : St} {o : O3} (h : Turn p k r c s o) {got : Int} {is : Bool} (hg : is = true → 0 ≤ got ∧ got ≤ 999) : stOk (stepF o s c.length got is) c.length = true := by
  have hp := stOk_iff.1 h.st
  have hr := ok3_range h.ok
  unfold stepF
  split
  · exact h.st
  · rw [stOk_iff]
    have hn := nextF_ok (o := o) (s := s) (n := c.length) (is := is) hp.1 hp.2.1 (fun hh => by rcases hh with h6 | h7 <;> simp_all [bB])
    refine ⟨hn.1, hn.2, cellsF_ok hp.2.2 (fun h1 => by simp [h1, bB] at hr; omega) (fun h2 => by simp [h2, bB] at hr; omega) hg⟩
theorem sendK_range {p : PD} {k : KD} {r : Nat} {c : List O3} {s : St} {o : O3} (h : Turn p k r c s o) : -1 ≤ sendF o s ∧ sendF o s ≤ 999 ∧ (0 ≤ sendF o s → o.1 = 8 ∧ s.f = false) := by
  have hp := stOk_iff.1 h.st
  have hs := ok3_small (o := o) (ops := c.length) (by have := (chk_zero h.ck).2.1; omega) h.ok
  unfold sendF
  split
  · exact ⟨by omega, by omega, fun hh => by omega⟩
  · rename_i hf
    have := sentF_ok (o := o) hp.2.2 (by omega)
    exact ⟨this.1, this.2, fun hh => ⟨sentF_send hh, by simpa using hf⟩⟩
theorem linesT_ok {p : PD} {k : KD} (hk : KOk p k) (o : O3) (s : St) : (linesT k o s).length = p.wires.length ∧ (∀ (i : Nat) l x, (linesT k o s)[i]? = some l → p.wires[i]? = some x → LnOk l x) ∧ ∀ l ∈ linesT k o s, l.ls ≤ k.time := by
  unfold linesT
  split
  · refine ⟨by rw [List.length_set]; exact hk.ll, lines_set hk.lines (fun x hx => ?_), fun l hl => ?_⟩
    · have hlt : o.2.2.toNat < k.lines.length := by rw [hk.ll]; exact (List.getElem?_eq_some_iff.1 hx).1
      have hl : k.lines[o.2.2.toNat]? = some k.lines[o.2.2.toNat] := List.getElem?_eq_getElem hlt
      have e : lineAt k o = k.lines[o.2.2.toNat] := by simp [lineAt, List.getD, hl]
      rw [e]
      exact restL_ok (hk.lines _ _ _ hl hx)
    · rcases List.mem_or_eq_of_mem_set hl with h1 | h1
      · exact hk.lost l h1
      · rw [h1, restL_ls]
        unfold lineAt
        rw [List.getD]
        cases hx : k.lines[o.2.2.toNat]? with
        | none => have := hk.time; simpa [LnD.none] using this
        | some y => exact hk.lost y (List.mem_of_getElem? hx)
  · exact ⟨hk.ll, hk.lines, hk.lost⟩
theorem turn_ok {p : PD} {k : KD} (hp : plchk p = 0) (hk : KOk p k) {r : Nat} (hr : r < p.code.length) : KOk p (turnK p k r).1 := by
  obtain ⟨c, s, o, h⟩ := turn_of hp hk hr
  obtain ⟨e1, e2, e3⟩ := h.at
  obtain ⟨t1, t2, t3⟩ := linesT_ok hk o s
  have hsr := sendK_range h
  unfold turnK
  simp only [e1, e2, e3]
  refine ⟨by simp [hk.rl], ?_, fun i c' s' hc' hs' => ?_, ?_, ?_, by have := hk.time; simp; omega⟩
  · simp only
    unfold linesS
    split <;> simp [t1]
  · simp only at hs'
    by_cases hir : r = i
    · subst hir
      rw [List.getElem?_set_self (by rw [hk.rl]; exact hr)] at hs'
      obtain rfl := Option.some.inj hs'
      rw [h.hc] at hc'
      obtain rfl := Option.some.inj hc'
      exact stepK_ok h (got_ok hp hk h)
    · rw [List.getElem?_set_ne hir] at hs'
      exact hk.rooms i c' s' hc' hs'
  · simp only
    unfold linesS
    split
    · rename_i h0
      refine lines_set t2 (fun x hx => ?_)
      have hlt : o.2.2.toNat < (linesT k o s).length := by rw [t1]; exact (List.getElem?_eq_some_iff.1 hx).1
      have hl : (linesT k o s)[o.2.2.toNat]? = some (linesT k o s)[o.2.2.toNat] := List.getElem?_eq_getElem hlt
      have e : (linesT k o s).getD o.2.2.toNat LnD.none = (linesT k o s)[o.2.2.toNat] := by simp [List.getD, hl]
      rw [e]
      exact putL_ok (t2 _ _ _ hl hx) ⟨h0, hsr.2.1⟩
    · exact t2
  · simp only
    intro l hl
    unfold linesS at hl
    split at hl
    · rcases List.mem_or_eq_of_mem_set hl with h1 | h1
      · have := t3 l h1
        omega
      · have h2 := putL_ls ((linesT k o s).getD o.2.2.toNat LnD.none) (sendF o s)
        rw [← h1] at h2
        rw [List.getD] at h2
        cases hx : (linesT k o s)[o.2.2.toNat]? with
        | none => rw [hx] at h2; have := hk.time; simp [LnD.none] at h2; omega
        | some y => rw [hx] at h2; have := t3 y (List.mem_of_getElem? hx); simp at h2; omega
    · have := t3 l hl
      omega
theorem who_room {p : PD} (hp : plchk p = 0) (t : Int) : -1 ≤ hold p.spans t ∧ (0 ≤ hold p.spans t → (hold p.spans t).toNat < p.code.length) := by
  obtain ⟨_, _, hf, _, hs, _, _, _⟩ := plchk_zero hp
  have hr := hold_range (t := t) (fchk_zero hf).2.2.2.1
  refine ⟨hr.1, fun h0 => ?_⟩
  cases hi : p.spans.findIdx? (hits t) with
  | none => rw [hold_none hi] at h0; omega
  | some i =>
    have hi' := hi
    rw [List.findIdx?_eq_some_iff_getElem] at hi'
    obtain ⟨hlt, _⟩ := hi'
    have hg : p.spans[i]? = some p.spans[i] := List.getElem?_eq_getElem hlt
    rw [hold_some hi hg] at h0 ⊢
    have := any_of_all hs (List.mem_of_getElem? hg)
    simp [spanOut] at this
    omega
theorem tick_ok {p : PD} {k : KD} (hp : plchk p = 0) (hk : KOk p k) : KOk p (tickK p p.spans k).1 := by
  have hw := who_room hp (k.time % p.ticks)
  unfold tickK
  simp only
  split
  · exact ⟨hk.rl, hk.ll, hk.rooms, hk.lines, fun l hl => by have := hk.lost l hl; simp; omega, by have := hk.time; simp; omega⟩
  · exact turn_ok hp hk (hw.2 (by omega))
theorem tick_time (p : PD) (sp : List S3) (k : KD) : (tickK p sp k).1.time = k.time + 1 := by
  unfold tickK
  simp only
  split <;> rfl
end Go.Proofs.YtanndhamnfnjfaeDoor
namespace Go.Proofs.YtanndhamnfnjfaeDoor

/-- One room of a plan: its code, its number, its state, how many steps there were. -/
structure AD where
  c : List O3
  r : Int
  s : St
  t : Int
/-- The op that it is at. -/
def AD.op (a : AD) : O3 := a.c.getD a.s.p.toNat (0, 0, 0)
def stepA (a : AD) (got : Int) (is : Bool) : AD := ⟨a.c, a.r, stepF a.op a.s a.c.length got is, a.t + 1⟩
/-- What came of a step, and what it sends. -/
def evOf (a : AD) (is : Bool) : Int × Int × Int × Int := (a.t, a.r, a.s.p, whatF a.op a.s is)
def sentA (a : AD) : Int := sendF a.op a.s
/-- What is handed in is refused. -/
def gotNo (got : Int) (is : Bool) : Prop := is = true ∧ (got < 0 ∨ 999 < got)
instance (got : Int) (is : Bool) : Decidable (gotNo got is) := by unfold gotNo; infer_instance
def newA (p : PD) (r : Int) : AD := ⟨p.code.getD r.toNat [], r, stNew, 0⟩
structure AOk (a : AD) : Prop where
  ck : (chk a.c).2 = 0
  st : stOk a.s a.c.length = true
theorem newA_ok {p : PD} {r : Int} (h : prgE p r = 0) : AOk (newA p r) := by
  obtain ⟨h1, h2, h3⟩ := prgE_zero h
  have hlt : r.toNat < p.code.length := by omega
  have hc : p.code.getD r.toNat [] = p.code[r.toNat] := by simp [List.getD, hlt]
  have hk := codesE_zero (plchk_zero h1).2.2.2.2.2.2.1 p.code[r.toNat] (List.getElem_mem hlt)
  refine ⟨by unfold newA; simp only; rw [hc]; exact hk, ?_⟩
  unfold newA
  simp only
  rw [hc]
  have := (chk_zero hk).1
  rw [stOk_iff]
  refine ⟨by simp [stNew], by simp [stNew]; omega, fun i _ => by simp [stNew]⟩
theorem AOk.op {a : AD} (h : AOk a) : ok3 a.c.length a.op = true ∧ a.c[a.s.p.toNat]? = some a.op := by
  obtain ⟨h1, h2, _⟩ := stOk_iff.1 h.st
  have hlt : a.s.p.toNat < a.c.length := by omega
  have e : a.op = a.c[a.s.p.toNat] := by simp [AD.op, List.getD, hlt]
  rw [e]
  exact ⟨(chk_zero h.ck).2.2 _ (List.getElem_mem hlt), List.getElem?_eq_getElem hlt⟩
theorem stepA_ok {a : AD} (h : AOk a) {got : Int} {is : Bool} (hg : ¬ gotNo got is) : AOk (stepA a got is) := by
  refine ⟨h.ck, ?_⟩
  have hg' : is = true → 0 ≤ got ∧ got ≤ 999 := fun e => by
    by_cases h1 : got < 0 ∨ 999 < got
    · exact absurd ⟨e, h1⟩ hg
    · omega
  have hp := stOk_iff.1 h.st
  have hr := ok3_range h.op.1
  show stOk (stepF a.op a.s a.c.length got is) a.c.length = true
  generalize a.op = o at hr
  unfold stepF
  split
  · exact h.st
  · rw [stOk_iff]
    have hn := nextF_ok (o := o) (s := a.s) (n := a.c.length) (is := is) hp.1 hp.2.1 (fun hh => by rcases hh with h6 | h7 <;> simp_all [bB])
    exact ⟨hn.1, hn.2, cellsF_ok hp.2.2 (fun h1 => by simp [h1, bB] at hr; omega) (fun h2 => by simp [h2, bB] at hr; omega) hg'⟩
end Go.Proofs.YtanndhamnfnjfaeDoor
namespace Go.Proofs.YtanndhamnfnjfaeDoor
open Go.RowKit

/-- What a call leaves alone: all blocks that were there, but those that are named. -/
structure KTouch (M : List Nat) (w w' : World) : Prop where
  os : w'.os = w.os
  tape : w'.tape = w.tape
  output : w'.output = w.output
  size : w.heap.size ≤ w'.heap.size
  block : ∀ k, k < w.heap.size → k ∉ M → w'.heap[k]? = w.heap[k]?
theorem KTouch.refl (M : List Nat) (w : World) : KTouch M w w := ⟨rfl, rfl, rfl, Nat.le_refl _, fun _ _ _ => rfl⟩
theorem KTouch.trans {M : List Nat} {a b c : World} (h : KTouch M a b) (g : KTouch M b c) : KTouch M a c :=
  ⟨g.os.trans h.os, g.tape.trans h.tape, g.output.trans h.output, Nat.le_trans h.size g.size, fun k hk hm => (g.block k (Nat.lt_of_lt_of_le hk h.size) hm).trans (h.block k hk hm)⟩
theorem KTouch.of {M : List Nat} {w w' : World} (h : Below w.heap.size w w') : KTouch M w w' := ⟨h.os, h.tape, h.output, h.size, fun k hk _ => h.block k hk⟩
theorem KTouch.set {M : List Nat} (w : World) {b : Nat} (hb : b ∈ M) (i : Nat) (v : Value) : KTouch M w (w.setCell ⟨b, i, none⟩ v) :=
  ⟨rfl, rfl, rfl, by simp, fun k _ hm => Below.heap_setCell _ _ _ _ (fun e => hm (by rw [show k = b from e]; exact hb))⟩
theorem KTouch.below {M : List Nat} {w w' : World} (h : KTouch M w w') {B : Nat} (hB : ∀ b ∈ M, B ≤ b) (hw : B ≤ w.heap.size) : Below B w w' :=
  ⟨h.os, h.tape, h.output, h.size, fun k hk => h.block k (by omega) (fun hm => by have := hB k hm; omega)⟩
theorem KTouch.drew {M : List Nat} {w w' : World} (h : KTouch M w w') : KTouch M w w'.drew := h.trans (KTouch.of (Below.refl _ _).drew)
theorem KTouch.more {M M' : List Nat} {w w' w'' : World} (h : KTouch M w w') (g : KTouch M' w' w'') (hn : ∀ m ∈ M', w.heap.size ≤ m) : KTouch M w w'' :=
  ⟨g.os.trans h.os, g.tape.trans h.tape, g.output.trans h.output, Nat.le_trans h.size g.size, fun k hk hm => (g.block k (Nat.lt_of_lt_of_le hk h.size) (fun hm' => by have := hn k hm'; omega)).trans (h.block k hk hm)⟩
theorem KTouch.mono {M M' : List Nat} {w w' : World} (h : KTouch M w w') (hm : ∀ m ∈ M, m ∈ M') : KTouch M' w w' := ⟨h.os, h.tape, h.output, h.size, fun k hk hn => h.block k hk (fun h2 => hn (hm k h2))⟩
/-- The cells of a state. -/
structure StC (w : World) (b o : Nat) (s : St) : Prop where
  p : w.cell? ⟨b, o, none⟩ = some (.int .i64 s.p)
  c0 : w.cell? ⟨b, o + 1, none⟩ = some (.int .i64 (s.c 0))
  c1 : w.cell? ⟨b, o + 2, none⟩ = some (.int .i64 (s.c 1))
  c2 : w.cell? ⟨b, o + 3, none⟩ = some (.int .i64 (s.c 2))
  c3 : w.cell? ⟨b, o + 4, none⟩ = some (.int .i64 (s.c 3))
  c4 : w.cell? ⟨b, o + 5, none⟩ = some (.int .i64 (s.c 4))
  c5 : w.cell? ⟨b, o + 6, none⟩ = some (.int .i64 (s.c 5))
  f : w.cell? ⟨b, o + 7, none⟩ = some (.bool s.f)
theorem StC.block {w w' : World} {b o : Nat} {s : St} (h : StC w b o s) (hb : w'.heap[b]? = w.heap[b]?) : StC w' b o s := by
  have hc := fun i => World.cell?_of_block (w := w) (w' := w') (a := ⟨b, i, none⟩) hb
  exact ⟨(hc _).trans h.p, (hc _).trans h.c0, (hc _).trans h.c1, (hc _).trans h.c2, (hc _).trans h.c3, (hc _).trans h.c4, (hc _).trans h.c5, (hc _).trans h.f⟩
/-- A cell is another number. -/
def pokeS (s : St) (c : Nat) (n : Int) : St := ⟨s.p, fun i => if i = c then n else s.c i, s.f⟩
/-- What is wrong with a poke. -/
def pokeB (k : KD) (r c n : Int) : Bool := decide (r < 0) || decide ((k.rooms.length : Int) ≤ r) || decide (c < 0) || decide (5 < c) || decide (n < 0) || decide (999 < n)
/-- .. as a number. -/
def pokeN (k : KD) (r c n : Int) : Int := if pokeB k r c n = true then 1 else 0
def pokeK (k : KD) (r c n : Int) : KD := if pokeB k r c n = true then k else ⟨k.rooms.set r.toNat (pokeS (k.rooms.getD r.toNat stNew) c.toNat n), k.lines, k.time⟩
theorem pokeB_false {k : KD} {r c n : Int} (h : pokeB k r c n = false) : 0 ≤ r ∧ r < k.rooms.length ∧ 0 ≤ c ∧ c ≤ 5 ∧ 0 ≤ n ∧ n ≤ 999 := by
  unfold pokeB at h
  simp only [Bool.or_eq_false_iff, decide_eq_false_iff_not] at h
  omega
theorem pokeS_ok {s : St} {m : Nat} (h : stOk s m = true) {c : Nat} {n : Int} (hn : 0 ≤ n ∧ n ≤ 999) : stOk (pokeS s c n) m = true := by
  obtain ⟨h1, h2, h3⟩ := stOk_iff.1 h
  refine stOk_iff.2 ⟨h1, h2, fun i hi => ?_⟩
  show 0 ≤ (if i = c then n else s.c i) ∧ (if i = c then n else s.c i) ≤ 999
  split
  · exact hn
  · exact h3 i hi
theorem poke_ok {p : PD} {k : KD} (hk : KOk p k) (r c n : Int) : KOk p (pokeK k r c n) := by
  unfold pokeK
  cases hb : pokeB k r c n with
  | true => rw [if_pos rfl]; exact hk
  | false =>
    rw [if_neg (by decide)]
    obtain ⟨h0, h1, h2, h3, h4, h5⟩ := pokeB_false hb
    refine ⟨by simp only [List.length_set]; exact hk.rl, hk.ll, fun i c' s hc hs => ?_, hk.lines, hk.lost, hk.time⟩
    simp only at hs
    by_cases hij : r.toNat = i
    · subst hij
      have hlt : r.toNat < k.rooms.length := by omega
      rw [List.getElem?_set_self hlt] at hs
      obtain rfl := Option.some.inj hs
      have hs0 : k.rooms[r.toNat]? = some k.rooms[r.toNat] := List.getElem?_eq_getElem hlt
      rw [show k.rooms.getD r.toNat stNew = k.rooms[r.toNat] by simp [List.getD, hs0]]
      exact pokeS_ok (hk.rooms _ _ _ hc hs0) ⟨h4, h5⟩
    · rw [List.getElem?_set_ne hij] at hs
      exact hk.rooms i c' s hc hs
end Go.Proofs.YtanndhamnfnjfaeDoor
namespace Go.Proofs.YtanndhamnfnjfaeDoor
open Go.RowKit

/-- A state as a value. -/
def stA (s : St) : Value := .agg #[.int .i64 s.p, .int .i64 (s.c 0), .int .i64 (s.c 1), .int .i64 (s.c 2), .int .i64 (s.c 3), .int .i64 (s.c 4), .int .i64 (s.c 5), .bool s.f]
/-- An event as a value. -/
def evA (e : Int × Int × Int × Int) : Value := .agg #[.int .i64 e.1, .int .i64 e.2.1, .int .i64 e.2.2.1, .int .i64 e.2.2.2]
def errB (b : Bool) : Int := if b = true then 1 else 0
/-- A room of a kernel, and whether there is one. -/
def noRoom (k : KD) (r : Int) : Bool := decide (r < 0) || decide ((k.rooms.length : Int) ≤ r)
def roomK (k : KD) (r : Int) : St := if noRoom k r = true then stNew else k.rooms.getD r.toNat stNew
/-- A line of a kernel, and whether there is one. -/
def noLine (k : KD) (i : Int) : Bool := decide (i < 0) || decide ((k.lines.length : Int) ≤ i)
def lineK (k : KD) (i : Int) : LnD := if noLine k i = true then LnD.none else k.lines.getD i.toNat LnD.none
end Go.Proofs.YtanndhamnfnjfaeDoor
namespace Go.Proofs.YtanndhamnfnjfaeDoor
open Go.RowKit

/-- What package alone does, in every world of a kind: A w0 w a ab F: made in the world w0, a machine of one room lies at block ab; it is a, and all that it has lies in the blocks F. -/
structure AlnC (G : World → Prop) where
  A : World → World → AD → Nat → List Nat → Prop
  all : ∀ w w', G w → Below w.heap.size w w' → G w'
  since : ∀ {w0 w a ab F}, A w0 w a ab F → Below w0.heap.size w0 w
  ge : ∀ {w0 w a ab F}, A w0 w a ab F → ∀ g ∈ F, w0.heap.size ≤ g ∧ g < w.heap.size
  lower : ∀ {w1 w0 w a ab F}, Below w1.heap.size w1 w0 → A w0 w a ab F → A w1 w a ab F
  frame : ∀ {w0 w w' a ab F M}, A w0 w a ab F → KTouch M w w' → (∀ m ∈ M, m ∉ F ∧ w0.heap.size ≤ m) → A w0 w' a ab F
  new : ∀ (p : PD) (vc vs vw : Value) (r : Int) (W : World), G W → Pln W vc vs vw p → prgE p r = 0 → Calls Tryd.prog 17 #[plV vc p.ticks vs vw, .int .i64 r] W fun e w' => ∃ ab F, e = .returned (.tuple #[.pointer (some ⟨ab, 0, none⟩), .nilIface]) ∧ A W w' (newA p r) ab F
  no : ∀ (p : PD) (vc vs vw : Value) (r : Int) (W : World), G W → Pln W vc vs vw p → prgE p r ≠ 0 → Calls Tryd.prog 17 #[plV vc p.ticks vs vw, .int .i64 r] W fun e w' => ∃ x, e = .returned (.tuple #[.pointer x, wErr (prgE p r)]) ∧ Below W.heap.size W w'
  step : ∀ {w0 W a ab F} (got : Int) (is : Bool), G w0 → A w0 W a ab F → AOk a → ¬ gotNo got is → a.t < 1000000 → Calls Tryd.prog 18 #[.pointer (some ⟨ab, 0, none⟩), .int .i64 got, .bool is] W fun e w' => e = .returned (.tuple #[evA (evOf a is), .int .i64 (sentA a), .nilIface]) ∧ ∃ F', A w0 w' (stepA a got is) ab F' ∧ KTouch F W w' ∧ ∀ g ∈ F', g ∈ F ∨ W.heap.size ≤ g
  refuse : ∀ {w0 W a ab F} (got : Int) (is : Bool), G w0 → A w0 W a ab F → AOk a → gotNo got is → Calls Tryd.prog 18 #[.pointer (some ⟨ab, 0, none⟩), .int .i64 got, .bool is] W fun e w' => e = .returned (.tuple #[evA (0, 0, 0, 0), .int .i64 0, wErr 1]) ∧ Below W.heap.size W w'
  state : ∀ {w0 W a ab F}, A w0 W a ab F → Calls Tryd.prog 19 #[.pointer (some ⟨ab, 0, none⟩)] W fun e w' => e = .returned (stA a.s) ∧ Below W.heap.size W w'
  turns : ∀ {w0 W a ab F}, A w0 W a ab F → Calls Tryd.prog 20 #[.pointer (some ⟨ab, 0, none⟩)] W fun e w' => e = .returned (.int .i64 a.t) ∧ ∃ n, w' = W.drewN n
end Go.Proofs.YtanndhamnfnjfaeDoor
namespace Go.Proofs.YtanndhamnfnjfaeDoor
open Go.RowKit

/-- A state's eight cells, written. -/
def setSt (w : World) (b o : Nat) (s : St) : World := (((((((w.setCell ⟨b, o, none⟩ (.int .i64 s.p)).setCell ⟨b, o + 1, none⟩ (.int .i64 (s.c 0))).setCell ⟨b, o + 2, none⟩ (.int .i64 (s.c 1))).setCell ⟨b, o + 3, none⟩ (.int .i64 (s.c 2))).setCell ⟨b, o + 4, none⟩ (.int .i64 (s.c 3))).setCell ⟨b, o + 5, none⟩ (.int .i64 (s.c 4))).setCell ⟨b, o + 6, none⟩ (.int .i64 (s.c 5))).setCell ⟨b, o + 7, none⟩ (.bool s.f)
theorem setSt_touch {M : List Nat} (w : World) {b : Nat} (hb : b ∈ M) (o : Nat) (s : St) : KTouch M w (setSt w b o s) :=
  (((((((KTouch.set w hb _ _).trans (KTouch.set _ hb _ _)).trans (KTouch.set _ hb _ _)).trans (KTouch.set _ hb _ _)).trans (KTouch.set _ hb _ _)).trans (KTouch.set _ hb _ _)).trans (KTouch.set _ hb _ _)).trans (KTouch.set _ hb _ _)
theorem setSt_frozen (w : World) (b o : Nat) (s : St) (a : Addr) : (setSt w b o s).frozen? a = w.frozen? a := by
  unfold setSt
  simp only [World.frozen?_setCell]
theorem setCell_far {w : World} {b i j : Nat} {v : Value} (h : i ≠ j) : (w.setCell ⟨b, j, none⟩ v).cell? ⟨b, i, none⟩ = w.cell? ⟨b, i, none⟩ :=
  World.cell?_setCell_other _ _ _ _ (fun e => by injection e with e1 e2; exact h e2.symm)
theorem setSt_off {w : World} {b o : Nat} {s : St} {i : Nat} (h : i < o ∨ o + 8 ≤ i) : (setSt w b o s).cell? ⟨b, i, none⟩ = w.cell? ⟨b, i, none⟩ := by
  unfold setSt
  rw [setCell_far (by omega), setCell_far (by omega), setCell_far (by omega), setCell_far (by omega), setCell_far (by omega), setCell_far (by omega), setCell_far (by omega), setCell_far (by omega)]
theorem setSt_at {w : World} {b o : Nat} {s s' : St} (h : StC w b o s) : StC (setSt w b o s') b o s' := by
  obtain ⟨h0, h1, h2, h3, h4, h5, h6, h7⟩ := h
  unfold setSt
  refine ⟨?_, ?_, ?_, ?_, ?_, ?_, ?_, ?_⟩ <;> simp [go_sem, h0, h1, h2, h3, h4, h5, h6, h7]
theorem StC.off {w w' : World} {b o : Nat} {s : St} (h : StC w b o s) (hc : ∀ i, o ≤ i → i < o + 8 → w'.cell? ⟨b, i, none⟩ = w.cell? ⟨b, i, none⟩) : StC w' b o s :=
  ⟨(hc _ (by omega) (by omega)).trans h.p, (hc _ (by omega) (by omega)).trans h.c0, (hc _ (by omega) (by omega)).trans h.c1, (hc _ (by omega) (by omega)).trans h.c2, (hc _ (by omega) (by omega)).trans h.c3, (hc _ (by omega) (by omega)).trans h.c4, (hc _ (by omega) (by omega)).trans h.c5, (hc _ (by omega) (by omega)).trans h.f⟩
theorem StC.poke {w : World} {b o : Nat} {s : St} (h : StC w b o s) {c : Nat} (hc : c ≤ 5) (n : Int) : StC (w.setCell ⟨b, o + 1 + c, none⟩ (.int .i64 n)) b o (pokeS s c n) := by
  obtain ⟨h0, h1, h2, h3, h4, h5, h6, h7⟩ := h
  match c, hc with
  | 0, _ => refine ⟨?_, ?_, ?_, ?_, ?_, ?_, ?_, ?_⟩ <;> simp [go_sem, pokeS, h0, h1, h2, h3, h4, h5, h6, h7]
  | 1, _ => refine ⟨?_, ?_, ?_, ?_, ?_, ?_, ?_, ?_⟩ <;> simp [go_sem, pokeS, h0, h1, h2, h3, h4, h5, h6, h7]
  | 2, _ => refine ⟨?_, ?_, ?_, ?_, ?_, ?_, ?_, ?_⟩ <;> simp [go_sem, pokeS, h0, h1, h2, h3, h4, h5, h6, h7]
  | 3, _ => refine ⟨?_, ?_, ?_, ?_, ?_, ?_, ?_, ?_⟩ <;> simp [go_sem, pokeS, h0, h1, h2, h3, h4, h5, h6, h7]
  | 4, _ => refine ⟨?_, ?_, ?_, ?_, ?_, ?_, ?_, ?_⟩ <;> simp [go_sem, pokeS, h0, h1, h2, h3, h4, h5, h6, h7]
  | 5, _ => refine ⟨?_, ?_, ?_, ?_, ?_, ?_, ?_, ?_⟩ <;> simp [go_sem, pokeS, h0, h1, h2, h3, h4, h5, h6, h7]
/-- An event in its box. -/
def EvB (W : World) (b : Nat) (t r a q : Int) : Prop := W.heap[b]? = some (.cells #[.int .i64 t, .int .i64 r, .int .i64 a, .int .i64 q] 60 (0, 0))
theorem EvB.lt {W : World} {b : Nat} {t r a q : Int} (h : EvB W b t r a q) : b < W.heap.size := (Array.getElem?_eq_some_iff.1 h).1
theorem EvB.cs {W : World} {b : Nat} {t r a q : Int} (h : EvB W b t r a q) : W.cell? ⟨b, 0, none⟩ = some (.int .i64 t) ∧ W.cell? ⟨b, 1, none⟩ = some (.int .i64 r) ∧ W.cell? ⟨b, 2, none⟩ = some (.int .i64 a) ∧ W.cell? ⟨b, 3, none⟩ = some (.int .i64 q) := by
  have e : W.heap[b]? = _ := h
  simp [World.cell?, e]
theorem EvB.fs {W : World} {b : Nat} {t r a q : Int} (h : EvB W b t r a q) : W.frozen? ⟨b, 0, none⟩ = false ∧ W.frozen? ⟨b, 1, none⟩ = false ∧ W.frozen? ⟨b, 2, none⟩ = false ∧ W.frozen? ⟨b, 3, none⟩ = false := by
  have e : W.heap[b]? = _ := h
  simp [World.frozen?, e]
theorem EvB.set {W : World} {b : Nat} {t r a q : Int} (h : EvB W b t r a q) (t' r' a' q' : Int) : EvB ((((W.setCell ⟨b, 0, none⟩ (.int .i64 t')).setCell ⟨b, 1, none⟩ (.int .i64 r')).setCell ⟨b, 2, none⟩ (.int .i64 a')).setCell ⟨b, 3, none⟩ (.int .i64 q')) b t' r' a' q' := by
  have e : W.heap[b]? = _ := h
  unfold EvB
  simp [World.setCell, Array.getElem?_modify, e]
theorem EvB.at {W : World} {b : Nat} {t r a q : Int} (h : EvB W b t r a q) (a' : Int) : EvB (W.setCell ⟨b, 2, none⟩ (.int .i64 a')) b t r a' q := by
  have e : W.heap[b]? = _ := h
  unfold EvB
  simp [World.setCell, Array.getElem?_modify, e]
theorem EvB.what {W : World} {b : Nat} {t r a q : Int} (h : EvB W b t r a q) (q' : Int) : EvB (W.setCell ⟨b, 3, none⟩ (.int .i64 q')) b t r a q' := by
  have e : W.heap[b]? = _ := h
  unfold EvB
  simp [World.setCell, Array.getElem?_modify, e]
/-- A state in its box. -/
def StB (W : World) (b : Nat) (s : St) : Prop := W.heap[b]? = some (.cells #[.int .i64 s.p, .int .i64 (s.c 0), .int .i64 (s.c 1), .int .i64 (s.c 2), .int .i64 (s.c 3), .int .i64 (s.c 4), .int .i64 (s.c 5), .bool s.f] 35 (0, 0))
theorem StB.cs {W : World} {b : Nat} {s : St} (h : StB W b s) : StC W b 0 s := by
  have e : W.heap[b]? = _ := h
  refine ⟨?_, ?_, ?_, ?_, ?_, ?_, ?_, ?_⟩ <;> simp [World.cell?, e]
/-- Both boxes of a tick, the result's and its own. -/
structure Ev (w W : World) (e2 : Nat) (t r a q : Int) : Prop where
  res : EvB W w.heap.size 0 0 0 0
  own : EvB W e2 t r a q
  ne : e2 ≠ w.heap.size
  ge : w.heap.size ≤ e2
/-- The box laid ahead of the call. -/
theorem ev_box {w w1 : World} (b1 : Below (((w.alloc (.cells #[.int .i64 0, .int .i64 0, .int .i64 0, .int .i64 0] 60)).alloc (.cells #[.int .i64 0, .int .i64 0, .int .i64 0, .int .i64 0] 60)).drew).heap.size (((w.alloc (.cells #[.int .i64 0, .int .i64 0, .int .i64 0, .int .i64 0] 60)).alloc (.cells #[.int .i64 0, .int .i64 0, .int .i64 0, .int .i64 0] 60)).drew) w1) :
    (w1.cell? ⟨w.heap.size + 1, 0, none⟩ = some (.int .i64 0) ∧ w1.cell? ⟨w.heap.size + 1, 1, none⟩ = some (.int .i64 0) ∧ w1.cell? ⟨w.heap.size + 1, 2, none⟩ = some (.int .i64 0) ∧ w1.cell? ⟨w.heap.size + 1, 3, none⟩ = some (.int .i64 0)) ∧ w1.frozen? ⟨w.heap.size + 1, 0, none⟩ = false ∧ w1.frozen? ⟨w.heap.size + 1, 1, none⟩ = false ∧ w1.frozen? ⟨w.heap.size + 1, 2, none⟩ = false ∧ w1.frozen? ⟨w.heap.size + 1, 3, none⟩ = false := by
  have hc := fun o => b1.cell (p := ⟨w.heap.size + 1, o, none⟩) (by simp)
  have hf := fun o => b1.frozen (p := ⟨w.heap.size + 1, o, none⟩) (by simp)
  exact ⟨⟨(hc 0).trans (by simp), (hc 1).trans (by simp), (hc 2).trans (by simp), (hc 3).trans (by simp)⟩, (hf 0).trans (by simp), (hf 1).trans (by simp), (hf 2).trans (by simp), (hf 3).trans (by simp)⟩
/-- The cells of a state are there, and may be written. -/
theorem there_st {W : World} {b o : Nat} {s : St} (h : StC W b o s) (hf : ∀ i, W.frozen? ⟨b, i, none⟩ = false) (nq : Nat) : (W.drewN nq).there b o 8 := by
  obtain ⟨s0, s1, s2, s3, s4, s5, s6, s7⟩ := h
  intro j hj
  have hb : Below W.heap.size W (W.drewN nq) := below_dN (Below.refl _ _) nq
  have hlt : b < W.heap.size := World.block_lt_of_cell? W _ s0
  rw [hb.cell (p := ⟨b, o + j, none⟩) hlt, hb.frozen (p := ⟨b, o + j, none⟩) hlt]
  refine ⟨?_, hf _⟩
  match j, hj with
  | 0, _ => rw [Nat.add_zero, s0]; rfl
  | 1, _ => rw [s1]; rfl
  | 2, _ => rw [s2]; rfl
  | 3, _ => rw [s3]; rfl
  | 4, _ => rw [s4]; rfl
  | 5, _ => rw [s5]; rfl
  | 6, _ => rw [s6]; rfl
  | 7, _ => rw [s7]; rfl
end Go.Proofs.YtanndhamnfnjfaeDoor
namespace Go.Proofs.YtanndhamnfnjfaeDoor
open Go.ChangeShapes Go.WideShapes Go.ChangeAt Go.WideElems Go.RowKit

theorem gForms : Tryd.prog.globalNamed "framekeep/code.forms" = some 1 := by kernel_rfl
theorem tForms : (Tryd.prog.globals[1]?).map (·.type) = some 151 := by kernel_rfl
theorem cStr : Tryd.prog.cellsOf 9 = 1 := by kernel_rfl
theorem cInt : Tryd.prog.cellsOf 3 = 1 := by kernel_rfl
theorem cTwo : Tryd.prog.cellsOf 148 = 2 := by kernel_rfl
theorem cForm : Tryd.prog.cellsOf 150 = 3 := by kernel_rfl

theorem len2 {α : Type} {l : List α} (h : l.length = 2) : ∃ a b, l = [a, b] := by
  match l, h with
  | [a, b], _ => exact ⟨a, b, rfl⟩
theorem len3 {α : Type} {l : List α} (h : l.length = 3) : ∃ a b c, l = [a, b, c] := by
  match l, h with
  | [a, b, c], _ => exact ⟨a, b, c, rfl⟩
theorem two_one {H : Type} {enc : TypeId × Value → H} {w : World} {base : Nat} {sp : Nat → Bool} {held : Bool} {fuel : Nat} {cs : List Value} {p q : Int} {pl : List MemPlace}
    (h : DataW.trod enc Tryd.prog w base sp held fuel 148 cs = some (.agg [.lit (.int .i64 p), .lit (.int .i64 q)], pl)) : cs = [.int .i64 p, .int .i64 q] := by
  have := Lib.cells_of_tab (k := .i64) (zs := [p, q]) Tryd.underlying148 Tryd.underlying3 cInt cTwo h
  simpa using this
theorem form_one {H : Type} {enc : TypeId × Value → H} {w : World} {base : Nat} {sp : Nat → Bool} {held : Bool} {fuel : Nat} {cs : List Value} {s : List UInt8} {p q : Int} {pl : List MemPlace}
    (h : DataW.trod enc Tryd.prog w base sp held fuel 150 cs = some (.agg [.lit (.string s), .agg [.lit (.int .i64 p), .lit (.int .i64 q)]], pl)) : cs = [.string ⟨s.toArray⟩, .int .i64 p, .int .i64 q] := by
  obtain ⟨xs, n, _, hx, hl, hxl, hf⟩ := DataW.trod_struct Tryd.underlying150 h
  rw [cForm] at hl
  have f0 : DataW.trod enc Tryd.prog w base sp held n 9 ((cs.drop 0).take (Tryd.prog.cellsOf 9)) = xs[0]? := hf 0 _ rfl
  have f1 : DataW.trod enc Tryd.prog w base sp held n 148 ((cs.drop 1).take (Tryd.prog.cellsOf 148)) = xs[1]? := hf 1 _ rfl
  rw [cStr] at f0
  rw [cTwo] at f1
  simp only [Prod.mk.injEq, DataW.agg.injEq] at hx
  obtain ⟨c0, c1, c2, rfl⟩ := len3 hl
  have hxl2 : xs.length = 2 := hxl
  obtain ⟨x0, x1, rfl⟩ := len2 hxl2
  simp only [List.map_cons, List.map_nil, List.cons.injEq, and_true] at hx
  simp at f0 f1
  obtain ⟨y0, z0⟩ := x0
  obtain ⟨y1, z1⟩ := x1
  simp only at hx
  rw [← hx.1.1] at f0
  rw [← hx.1.2] at f1
  obtain ⟨b, hb, hb2, _⟩ := DataW.trod_string Tryd.underlying9 f0
  simp only [Prod.mk.injEq, DataW.lit.injEq, Lit.string.injEq] at hb2
  have h2 := two_one f1
  simp only [List.cons.injEq, and_true] at hb h2
  obtain ⟨rfl, rfl⟩ := h2
  rw [hb, hb2.1]

/-- The rows of the table of forms. -/
def formRows : List (List UInt8 × Int × Int) := [([], 0, 0), ([115, 101, 116], 6, 1000), ([99, 111, 112, 121], 6, 6), ([97, 100, 100], 6, 6), ([115, 117, 98], 6, 6), ([109, 117, 108], 6, 6), ([122, 101, 114, 111], 6, 0), ([106, 117, 109, 112], 1, 0), ([115, 101, 110, 100], 6, 12), ([116, 97, 107, 101], 6, 12), ([114, 101, 115, 116], 1, 1), ([102, 97, 105, 108], 1, 1)]
def formD {H : Type} (r : List UInt8 × Int × Int) : DataW H := .agg [.lit (.string r.1), .agg [.lit (.int .i64 r.2.1), .lit (.int .i64 r.2.2)]]
theorem forms_of_head {W : World} {rest : List (String × DataW Unit)} (h : laidMet Tryd.prog (("framekeep/code.forms", .agg (formRows.map formD)) :: rest) W) : Forms W := by
  obtain ⟨ps, ⟨g', t', cs, fuel, p, q, hg', ht', hvar, hd, _, _⟩, _⟩ := h
  obtain rfl := Option.some.inj (gForms.symm.trans hg')
  obtain rfl := Option.some.inj (tForms.symm.trans ht')
  obtain ⟨xs, m, _, hx, _, hxl, hel⟩ := DataW.trod_array Tryd.underlying151 hd
  simp only [Prod.mk.injEq, DataW.agg.injEq] at hx
  have hrow : ∀ (i : Nat) r, formRows[i]? = some r → (cs.toList.drop (i * 3)).take 3 = [.string ⟨r.1.toArray⟩, .int .i64 r.2.1, .int .i64 r.2.2] := by
    intro i r hr
    have hi : i < 12 := by
      rcases Nat.lt_or_ge i 12 with h | h
      · exact h
      · rw [List.getElem?_eq_none (show formRows.length ≤ i from h)] at hr; cases hr
    have e1 := hel i hi
    rw [cForm] at e1
    have e2 : (xs.map (·.1))[i]? = some (formD r) := by rw [← hx.1]; simp [hr]
    simp only [List.getElem?_map, Option.map_eq_some_iff] at e2
    obtain ⟨⟨y, z⟩, hy, rfl⟩ := e2
    rw [hy] at e1
    exact form_one e1
  have hcell := fun i => World.var?_cell hg' hvar i
  have hat : ∀ (i j : Nat) r u, formRows[i]? = some r → j < 3 → ([.string ⟨r.1.toArray⟩, .int .i64 r.2.1, .int .i64 r.2.2] : List Value)[j]? = some u → W.cell? ⟨1, i * 3 + j, none⟩ = some u := by
    intro i j r u hr hj hu
    rw [← hrow i r hr] at hu
    rw [List.getElem?_take, if_pos hj, List.getElem?_drop] at hu
    rw [hcell]
    simpa using hu
  intro i v hv
  have hi : i < 36 := by
    rcases Nat.lt_or_ge i 36 with h | h
    · exact h
    · rw [List.getElem?_eq_none (show formsCells.length ≤ i from h)] at hv; cases hv
  have key : ∀ i, i < 36 → ∀ v, formsCells[i]? = some v → ∃ r, formRows[i / 3]? = some r ∧ ([.string ⟨r.1.toArray⟩, .int .i64 r.2.1, .int .i64 r.2.2] : List Value)[i % 3]? = some v := by
    intro i hi v hv
    match i, hi with
    | 0, _ | 1, _ | 2, _ | 3, _ | 4, _ | 5, _ | 6, _ | 7, _ | 8, _ | 9, _ | 10, _ | 11, _ | 12, _ | 13, _ | 14, _ | 15, _ | 16, _ | 17, _ | 18, _ | 19, _ | 20, _ | 21, _ | 22, _ | 23, _ | 24, _ | 25, _ | 26, _ | 27, _ | 28, _ | 29, _ | 30, _ | 31, _ | 32, _ | 33, _ | 34, _ | 35, _ => exact ⟨_, rfl, hv⟩
    | i + 36, h => omega
  obtain ⟨r, h1, h2⟩ := key i hi v hv
  have := hat (i / 3) (i % 3) r v h1 (Nat.mod_lt _ (by decide)) h2
  rwa [show i / 3 * 3 + i % 3 = i by omega] at this
end Go.Proofs.YtanndhamnfnjfaeDoor
namespace Go.Proofs.YtanndhamnfnjfaeDoor
open Go.RowKit

theorem below_st8 {B : Nat} {w w' : World} (h : Below B w w') (b : Nat) (hb : B ≤ b) (x0 x1 x2 x3 x4 x5 x6 x7 : Value) : Below B w ((((((((w'.setCell ⟨b, 0, none⟩ x0).setCell ⟨b, 1, none⟩ x1).setCell ⟨b, 2, none⟩ x2).setCell ⟨b, 3, none⟩ x3).setCell ⟨b, 4, none⟩ x4).setCell ⟨b, 5, none⟩ x5).setCell ⟨b, 6, none⟩ x6).setCell ⟨b, 7, none⟩ x7) :=
  (((((((h.setCell (p := ⟨b, 0, none⟩) hb x0).setCell (p := ⟨b, 1, none⟩) hb x1).setCell (p := ⟨b, 2, none⟩) hb x2).setCell (p := ⟨b, 3, none⟩) hb x3).setCell (p := ⟨b, 4, none⟩) hb x4).setCell (p := ⟨b, 5, none⟩) hb x5).setCell (p := ⟨b, 6, none⟩) hb x6).setCell (p := ⟨b, 7, none⟩) hb x7
/-- A state is written into a new block. -/
theorem zst_set {w : World} {b : Nat} (h : w.heap[b]? = some (.cells #[.int .i64 0, .int .i64 0, .int .i64 0, .int .i64 0, .int .i64 0, .int .i64 0, .int .i64 0, .bool false] 35)) (s : St) : ((((((((w.setCell ⟨b, 0, none⟩ (.int .i64 s.p)).setCell ⟨b, 1, none⟩ (.int .i64 (s.c 0))).setCell ⟨b, 2, none⟩ (.int .i64 (s.c 1))).setCell ⟨b, 3, none⟩ (.int .i64 (s.c 2))).setCell ⟨b, 4, none⟩ (.int .i64 (s.c 3))).setCell ⟨b, 5, none⟩ (.int .i64 (s.c 4))).setCell ⟨b, 6, none⟩ (.int .i64 (s.c 5))).setCell ⟨b, 7, none⟩ (.bool s.f)).heap[b]? = some (.cells #[.int .i64 s.p, .int .i64 (s.c 0), .int .i64 (s.c 1), .int .i64 (s.c 2), .int .i64 (s.c 3), .int .i64 (s.c 4), .int .i64 (s.c 5), .bool s.f] 35) := by
  simp [World.setCell, Array.getElem?_modify, h]
theorem touch_st (w : World) (b : Nat) (x0 x1 x2 x3 x4 x5 x6 x7 : Value) : KTouch [b] w ((((((((w.setCell ⟨b, 2, none⟩ x0).setCell ⟨b, 3, none⟩ x1).setCell ⟨b, 4, none⟩ x2).setCell ⟨b, 5, none⟩ x3).setCell ⟨b, 6, none⟩ x4).setCell ⟨b, 7, none⟩ x5).setCell ⟨b, 8, none⟩ x6).setCell ⟨b, 9, none⟩ x7) :=
  have hm : b ∈ [b] := by simp
  (((((((KTouch.set w hm 2 x0).trans (KTouch.set _ hm 3 x1)).trans (KTouch.set _ hm 4 x2)).trans (KTouch.set _ hm 5 x3)).trans (KTouch.set _ hm 6 x4)).trans (KTouch.set _ hm 7 x5)).trans (KTouch.set _ hm 8 x6)).trans (KTouch.set _ hm 9 x7)
end Go.Proofs.YtanndhamnfnjfaeDoor
namespace Go.Proofs.YtanndhamnfnjfaeDoor
open Go.RowKit

/-- Its block. -/
def gaO (cv : Value) (a : AD) : Obj := .cells #[cv, .int .i64 a.r, .int .i64 a.s.p, .int .i64 (a.s.c 0), .int .i64 (a.s.c 1), .int .i64 (a.s.c 2), .int .i64 (a.s.c 3), .int .i64 (a.s.c 4), .int .i64 (a.s.c 5), .bool a.s.f, .int .i64 a.t] 87 (0, 0)
structure GA (w : World) (base : Nat) (a : AD) (ab : Nat) (cv : Value) (F0 : List Nat) : Prop where
  blk : w.heap[ab]? = some (gaO cv a)
  src : ∀ w', w.heap.size ≤ w'.heap.size → (∀ b ∈ F0, w'.heap[b]? = w.heap[b]?) → Ops w' cv a.c
  ge : ∀ g ∈ ab :: F0, base ≤ g
  lt : ∀ g ∈ F0, g < w.heap.size
  ap : ab ∉ F0
  tn : 0 ≤ a.t
theorem GA.abl {w : World} {base ab : Nat} {a : AD} {cv : Value} {F0 : List Nat} (h : GA w base a ab cv F0) : ab < w.heap.size := (Array.getElem?_eq_some_iff.1 h.blk).1
theorem GA.ops {w : World} {base ab : Nat} {a : AD} {cv : Value} {F0 : List Nat} (h : GA w base a ab cv F0) : Ops w cv a.c := h.src w (Nat.le_refl _) (fun _ _ => rfl)
theorem GA.flt {w : World} {base ab : Nat} {a : AD} {cv : Value} {F0 : List Nat} (h : GA w base a ab cv F0) : ∀ g ∈ ab :: F0, g < w.heap.size := fun g hg => by
  rcases List.mem_cons.1 hg with e | e
  · rw [e]; exact h.abl
  · exact h.lt g e
theorem GA.frame {w w' : World} {base ab : Nat} {a : AD} {cv : Value} {F0 : List Nat} (h : GA w base a ab cv F0) {M : List Nat} (ht : KTouch M w w') (hM : ∀ m ∈ M, m ∉ ab :: F0) : GA w' base a ab cv F0 := by
  have hb : ∀ g ∈ ab :: F0, w'.heap[g]? = w.heap[g]? := fun g hg => ht.block g (h.flt g hg) (fun hm => hM g hm hg)
  exact ⟨(hb ab (by simp)).trans h.blk, fun w2 h2 hb2 => h.src w2 (Nat.le_trans ht.size h2) (fun b hm => (hb2 b hm).trans (hb b (by simp [hm]))), h.ge, fun g hg => Nat.lt_of_lt_of_le (h.lt g hg) ht.size, h.ap, h.tn⟩
theorem GA.all {w w' : World} {base ab : Nat} {a : AD} {cv : Value} {F0 : List Nat} (h : GA w base a ab cv F0) (hb : Below w.heap.size w w') : GA w' base a ab cv F0 := h.frame (M := []) (KTouch.of hb) (by simp)
theorem GA.lower {w : World} {base base' ab : Nat} {a : AD} {cv : Value} {F0 : List Nat} (h : GA w base a ab cv F0) (hb : base' ≤ base) : GA w base' a ab cv F0 := ⟨h.blk, h.src, fun g hg => Nat.le_trans hb (h.ge g hg), h.lt, h.ap, h.tn⟩
/-- Its own block is another one. -/
theorem GA.set {w w' : World} {base ab : Nat} {a a' : AD} {cv : Value} {F0 : List Nat} (h : GA w base a ab cv F0) (ht : KTouch [ab] w w') (hb : w'.heap[ab]? = some (gaO cv a')) (hc : a'.c = a.c) (htn : 0 ≤ a'.t) : GA w' base a' ab cv F0 := by
  refine ⟨hb, fun w2 h2 hb2 => ?_, h.ge, fun g hg => Nat.lt_of_lt_of_le (h.lt g hg) ht.size, h.ap, htn⟩
  rw [hc]
  refine h.src w2 (Nat.le_trans ht.size h2) (fun b hm => (hb2 b hm).trans (ht.block b (h.lt b hm) (fun e => ?_)))
  rw [List.mem_singleton] at e
  subst e
  exact h.ap hm
theorem gaO_cs {w : World} {ab : Nat} {cv : Value} {a : AD} (h : w.heap[ab]? = some (gaO cv a)) : w.cell? ⟨ab, 0, none⟩ = some cv ∧ w.cell? ⟨ab, 1, none⟩ = some (.int .i64 a.r) ∧ w.cell? ⟨ab, 2, none⟩ = some (.int .i64 a.s.p) ∧ w.cell? ⟨ab, 3, none⟩ = some (.int .i64 (a.s.c 0)) ∧ w.cell? ⟨ab, 4, none⟩ = some (.int .i64 (a.s.c 1)) ∧ w.cell? ⟨ab, 5, none⟩ = some (.int .i64 (a.s.c 2)) ∧ w.cell? ⟨ab, 6, none⟩ = some (.int .i64 (a.s.c 3)) ∧ w.cell? ⟨ab, 7, none⟩ = some (.int .i64 (a.s.c 4)) ∧ w.cell? ⟨ab, 8, none⟩ = some (.int .i64 (a.s.c 5)) ∧ w.cell? ⟨ab, 9, none⟩ = some (.bool a.s.f) ∧ w.cell? ⟨ab, 10, none⟩ = some (.int .i64 a.t) := by
  unfold gaO at h
  simp [World.cell?, h]
theorem gaO_fz {w : World} {ab : Nat} {cv : Value} {a : AD} (h : w.heap[ab]? = some (gaO cv a)) (o : Nat) : w.frozen? ⟨ab, o, none⟩ = false := by
  unfold gaO at h
  simp [World.frozen?, h]
/-- Its state is written. -/
theorem gaO_set {w : World} {ab : Nat} {cv : Value} {a : AD} (h : w.heap[ab]? = some (gaO cv a)) (s : St) : ((((((((w.setCell ⟨ab, 2, none⟩ (.int .i64 s.p)).setCell ⟨ab, 3, none⟩ (.int .i64 (s.c 0))).setCell ⟨ab, 4, none⟩ (.int .i64 (s.c 1))).setCell ⟨ab, 5, none⟩ (.int .i64 (s.c 2))).setCell ⟨ab, 6, none⟩ (.int .i64 (s.c 3))).setCell ⟨ab, 7, none⟩ (.int .i64 (s.c 4))).setCell ⟨ab, 8, none⟩ (.int .i64 (s.c 5))).setCell ⟨ab, 9, none⟩ (.bool s.f)).heap[ab]? = some (gaO cv ⟨a.c, a.r, s, a.t⟩) := by
  unfold gaO at h ⊢
  simp [World.setCell, Array.getElem?_modify, h]
theorem gaO_turn {w : World} {ab : Nat} {cv : Value} {a : AD} (h : w.heap[ab]? = some (gaO cv a)) (t : Int) : (w.setCell ⟨ab, 10, none⟩ (.int .i64 t)).heap[ab]? = some (gaO cv ⟨a.c, a.r, a.s, t⟩) := by
  unfold gaO at h ⊢
  simp [World.setCell, Array.getElem?_modify, h]
end Go.Proofs.YtanndhamnfnjfaeDoor
namespace Go.Proofs.YtanndhamnfnjfaeDoor
open Go.RowKit

def cameF (a : Int) (f f' is : Bool) : Int := if f = true then 5 else if f' = true then 4 else if a = 9 then (if is = true then 2 else 3) else if a = 8 then 1 else 0
theorem came_what (o : O3) (s : St) (n : Nat) (got : Int) (is : Bool) : cameF o.1 s.f (stepF o s n got is).f is = whatF o s is := by
  have hsf : (stepF o s n got is).f = if s.f = true then true else decide (o.1 = 11) := by
    unfold stepF
    cases hq : s.f <;> simp [hq]
  rw [hsf]
  unfold cameF whatF
  cases s.f with
  | true => simp
  | false =>
    simp only [Bool.false_eq_true, if_false, decide_eq_true_eq]
    by_cases h11 : o.1 = 11
    · rw [if_pos h11, if_neg (show ¬ o.1 = 8 by omega), if_neg (show ¬ o.1 = 9 by omega), if_pos h11]
    · rw [if_neg h11, if_neg h11]
      by_cases h9 : o.1 = 9
      · rw [if_pos h9, if_neg (show ¬ o.1 = 8 by omega), if_pos h9]
      · rw [if_neg h9, if_neg h9]
set_option maxRecDepth 100000 in
set_option maxHeartbeats 4000000 in
theorem came_any (a b c : Int) (s s' : St) (is : Bool) (w : World) :
    Calls Tryd.prog 37 #[.agg #[.int .i64 a, .int .i64 b, .int .i64 c], stA s, stA s', .bool is] w fun e w' => e = .returned (.int .i64 (cameF a s.f s'.f is)) ∧ Below w.heap.size w w' := by
  have hb : ∀ x y z, Below w.heap.size w (((w.alloc x).alloc y).alloc z) := fun x y z => (((Below.refl _ _).alloc (Nat.le_refl _) _).alloc (by simp) _).alloc (by simp; omega) _
  unfold stA
  have go : ∀ (f f' : Bool) (p p' q0 q1 q2 q3 q4 q5 r0 r1 r2 r3 r4 r5 : Int), Calls Tryd.prog 37 #[.agg #[.int .i64 a, .int .i64 b, .int .i64 c], .agg #[.int .i64 p, .int .i64 q0, .int .i64 q1, .int .i64 q2, .int .i64 q3, .int .i64 q4, .int .i64 q5, .bool f], .agg #[.int .i64 p', .int .i64 r0, .int .i64 r1, .int .i64 r2, .int .i64 r3, .int .i64 r4, .int .i64 r5, .bool f'], .bool is] w fun e w' => e = .returned (.int .i64 (cameF a f f' is)) ∧ Below w.heap.size w w' := by
    intro f f' p p' q0 q1 q2 q3 q4 q5 r0 r1 r2 r3 r4 r5
    cases f with
    | true =>
      go_enter Tryd.func37, Tryd.ntmps37
      go_wp2
      go_ret
      exact ⟨rfl, hb _ _ _⟩
    | false =>
      cases f' with
      | true =>
        go_enter Tryd.func37, Tryd.ntmps37
        go_wp2
        go_ret
        exact ⟨rfl, hb _ _ _⟩
      | false =>
        by_cases h9 : a = 9
        · subst h9
          cases is <;>
          · go_enter Tryd.func37, Tryd.ntmps37
            go_wp2
            go_ret
            exact ⟨rfl, hb _ _ _⟩
        · have q9 : (a == 9) = false := by simp [h9]
          by_cases h8 : a = 8
          · subst h8
            go_enter Tryd.func37, Tryd.ntmps37
            go_wp2
            go_ret
            exact ⟨rfl, hb _ _ _⟩
          · have q8 : (a == 8) = false := by simp [h8]
            have e : cameF a false false is = 0 := by unfold cameF; simp [h9, h8]
            rw [e]
            clear e
            go_enter Tryd.func37, Tryd.ntmps37
            go_wp2
            go_ret
            exact ⟨rfl, hb _ _ _⟩
  exact go _ _ _ _ _ _ _ _ _ _ _ _ _ _ _ _
end Go.Proofs.YtanndhamnfnjfaeDoor
