/-
  LogSy, SnpM, SnRdM, SnpK, SnpL, SnpC, SavM, SnMix, SnText0, SnByL: joined into one text.
-/
import Derived.Test.YtajfgmlockjmhaiGreatDoorJt8
import Derived.Test.YtajfgmlockjmhaiGreatDoorJt3
import Derived.Test.YtajfgmlockjmhaiGreatDoorJt7
import Derived.Test.YtajfgmlockjmhaiGreatDoorJt1
import Derived.Test.YtajfgmlockjmhaiGreatDoorJt2
import Derived.Test.YtajfgmlockjmhaiGreatDoorJt4
import Derived.Test.YtajfgmlockjmhaiGreatDoorJt5
import Derived.Test.YtajfgmlockjmhaiGreatDoorJt6
namespace Go.Proofs.YtajfgmlockjmhaiGreatDoor
open Go.RowKit
section
variable {G : World → Prop} {D : KerC G} {w0 : World} {p : PD} {d : LgD} {lb : Nat} {x : LW}

set_option maxRecDepth 100000 in
set_option maxHeartbeats 4000000 in
theorem lgsync_any (W : World) (h : GL D w0 W p d (d.k p) lb x) :
    Calls Tryz.prog 20 #[.pointer (some ⟨lb, 0, none⟩)] W fun e w' => e = .returned (wErr (syncE d)) ∧ GL D w0 w' p (syncL d) ((syncL d).k p) lb x ∧ KTouch (x.F lb) W w' := by
  obtain ⟨_, _, _, _, _, _, _, _, c8⟩ := h.blk.cs
  have hlbF : ∀ m ∈ [lb], m ∈ x.F lb := fun m hm => by rw [List.mem_singleton] at hm; rw [hm]; exact x.mem0 lb
  cases hst : d.stop with
  | true =>
    rw [hst] at c8
    have HE : Hid (syncE d = 6 ∧ syncL d = d) := by
      refine ⟨?_, ?_⟩
      · unfold syncE
        rw [if_pos (Or.inl hst)]
      · unfold syncL
        rw [if_pos hst]
    have H : Hid (GL D w0 W p d (d.k p) lb x) := h
    clear h
    go_enter Tryz.func20, Tryz.ntmps20
    go_wp2
    go_ret
    exact ⟨by rw [HE.out.1]; rfl, by rw [HE.out.2]; exact H.out, KTouch.refl _ _⟩
  | false =>
    rw [hst] at c8
    have hq := lgstep_any _ _ _ _ _ _ _ _ _ _ W h.blk
    cases hla : d.last with
    | true =>
      have hfl : d.fail = 0 := by
        unfold LgD.last at hla
        exact of_decide_eq_true hla
      have HE : Hid (syncE d = 6 ∧ syncL d = ⟨d.recs, d.part, d.safe, true, d.fail⟩) := by
        refine ⟨?_, ?_⟩
        · unfold syncE
          rw [if_pos (Or.inr hla)]
        · unfold syncL
          rw [if_neg (by rw [hst]; decide), if_pos hla]
      rw [hfl, show decide ((0 : Int) = 0) = true from rfl, show lessI 0 = 0 from rfl, Bool.not_true] at hq
      have HC : Hid (∀ w', LBk w' lb x.cv p.ticks x.sv x.wv (.pointer (some ⟨x.kb, 0, none⟩)) x.rv (d.safe : Nat) 0 true → KTouch [lb] W w' → GL D w0 w' p (syncL d) ((syncL d).k p) lb x ∧ KTouch (x.F lb) W w') := fun w' h1 h2 => by
        rw [HE.out.2]
        exact ⟨h.cells h2 (by rw [hfl]; exact h1) (h.tx.same rfl rfl), h2.mono hlbF⟩
      clear h hla
      go_enter Tryz.func20, Tryz.ntmps20
      go_wp2_with (go_at_call 50; refine hq.mono ?_; rintro e w1 ⟨rfl, h1, h2⟩; clear hq)
      go_ret
      exact ⟨by rw [HE.out.1]; rfl, HC.out w1 h1 h2⟩
    | false =>
      have hfl : d.fail ≠ 0 := by
        unfold LgD.last at hla
        exact of_decide_eq_false hla
      have HE : Hid (syncE d = 0 ∧ syncL d = ⟨d.recs, d.part, d.bytes, d.stop, d.less⟩) := by
        refine ⟨?_, ?_⟩
        · unfold syncE
          rw [if_neg (by rw [hst, hla]; decide)]
        · unfold syncL
          rw [if_neg (by rw [hst]; decide), if_neg (by rw [hla]; decide)]
      rw [decide_eq_false hfl, Bool.not_false] at hq
      have HC : Hid (∀ w', LBk w' lb x.cv p.ticks x.sv x.wv (.pointer (some ⟨x.kb, 0, none⟩)) x.rv (d.bytes : Nat) (lessI d.fail) false → KTouch [lb] W w' → GL D w0 w' p (syncL d) ((syncL d).k p) lb x ∧ KTouch (x.F lb) W w') := fun w' h1 h2 => by
        rw [HE.out.2]
        exact ⟨h.cells h2 (by rw [hst]; exact h1) (h.tx.same rfl rfl), h2.mono hlbF⟩
      have hlen := h.tx.len
      obtain ⟨ao, cap, hrv⟩ : ∃ ao cap, x.rv = .slice ao d.bytes cap := by
        rcases h.row.2 with ⟨hv, hn⟩ | ⟨g, cap, cur, hv, _⟩
        · exact ⟨none, 0, by rw [hv, ← hlen, hn]⟩
        · exact ⟨_, cap, by rw [hv, hlen]⟩
      clear h hla hlen
      rw [hrv] at hq HC
      generalize d.bytes = BY at *
      go_enter Tryz.func20, Tryz.ntmps20
      go_wp2_with (go_at_call 50; refine hq.mono ?_; rintro e w1 ⟨rfl, h1, h2⟩; clear hq; obtain ⟨_, _, _, _, _, c5, c6, _, _⟩ := h1.cs; have f6 := h1.free 6)
      go_ret
      exact ⟨by rw [HE.out.1]; rfl, HC.out _ (h1.safe _) (h2.trans (KTouch.set _ (by simp) _ _))⟩
end
end Go.Proofs.YtajfgmlockjmhaiGreatDoor
namespace Go.Proofs.YtajfgmlockjmhaiGreatDoor

/-- Numbers of at most seven digits, all of them. -/
def nums7 : List (List UInt8) → Option (List Int)
  | [] => some []
  | u :: ps => match numB7 u, nums7 ps with
    | some n, some l => some (n :: l)
    | _, _ => none
theorem nums7_back : ∀ {ps : List (List UInt8)} {ns : List Int}, nums7 ps = some ns → ps.flatMap (32 :: ·) = tail ns ∧ ns.length = ps.length ∧ ∀ n ∈ ns, 0 ≤ n
  | [], ns, h => by
    obtain rfl := Option.some.inj h
    exact ⟨rfl, rfl, fun n hn => (by cases hn)⟩
  | u :: ps, ns, h => by
    unfold nums7 at h
    cases h1 : numB7 u with
    | none => rw [h1] at h; cases h
    | some n =>
      cases h2 : nums7 ps with
      | none => rw [h1, h2] at h; cases h
      | some l =>
        rw [h1, h2] at h
        obtain rfl := Option.some.inj h
        obtain ⟨a1, a2, a3⟩ := nums7_back h2
        obtain ⟨_, b1, b2⟩ := numB7_some h1
        refine ⟨?_, by simp [a2], fun m hm => ?_⟩
        · rw [List.flatMap_cons, a1]
          simp [tail, b2]
        · rcases List.mem_cons.1 hm with rfl | hm
          · exact b1
          · exact a3 m hm
theorem nums7_itoa : ∀ (zs : List Int), (∀ z ∈ zs, 0 ≤ z ∧ z ≤ 9999999) → nums7 (zs.map Lib.itoa) = some zs
  | [], _ => rfl
  | z :: zs, h => by
    have h0 := h z (List.mem_cons_self ..)
    rw [List.map_cons, nums7, num7_itoa h0.1 h0.2, nums7_itoa zs (fun y hy => h y (List.mem_cons_of_mem _ hy))]
/-- A line: its word, and its numbers. -/
def wnL (u : List UInt8) : Option (List UInt8 × List Int) := match cutB 32 u with
  | [] => none
  | w :: ps => (nums7 ps).map fun ns => (w, ns)
theorem wn_back {u w : List UInt8} {ns : List Int} (h : wnL u = some (w, ns)) : w ++ tail ns = u ∧ ∀ n ∈ ns, 0 ≤ n := by
  unfold wnL at h
  split at h
  · cases h
  · rename_i w' ps hc
    obtain ⟨ns', hn, e⟩ := Option.map_eq_some_iff.1 h
    injection e with e1 e2
    subst e1
    subst e2
    obtain ⟨a1, _, a3⟩ := nums7_back hn
    have hj := cut_join 32 u [] _ _ hc
    rw [List.nil_append, a1] at hj
    exact ⟨hj.symm, a3⟩
theorem wn_line {w : List UInt8} (hw : (32 : UInt8) ∉ w) (zs : List Int) (h : ∀ z ∈ zs, 0 ≤ z ∧ z ≤ 9999999) : wnL (w ++ tail zs) = some (w, zs) := by
  unfold wnL
  rw [cut_body hw zs (fun z hz => (h z hz).1)]
  simp only
  rw [nums7_itoa zs h]
  rfl
/-! A kernel as lines. -/
def snTimeW : List UInt8 := [116, 105, 109, 101]
def snRoomW : List UInt8 := [114, 111, 111, 109]
def snWireW : List UInt8 := [119, 105, 114, 101]
def stN (s : St) : List Int := [s.p, s.c 0, s.c 1, s.c 2, s.c 3, s.c 4, s.c 5, if s.f = true then 1 else 0]
def sroomL (s : St) : List UInt8 := snRoomW ++ tail (stN s)
def swireL (l : LnD) : List UInt8 := snWireW ++ tail (l.ls :: l.xs)
def stimeL (t : Int) : List UInt8 := snTimeW ++ tail [t]
def snL (k : KD) : List (List UInt8) := stimeL k.time :: (k.rooms.map sroomL ++ k.lines.map swireL)
def snB (k : KD) : List UInt8 := endL (snL k)
/-- A state of numbers. -/
def stOf : List Int → Option St
  | [a, c0, c1, c2, c3, c4, c5, f] => if 1 < f then none else some ⟨a, fun i => if i = 0 then c0 else if i = 1 then c1 else if i = 2 then c2 else if i = 3 then c3 else if i = 4 then c4 else if i = 5 then c5 else 0, decide (f = 1)⟩
  | _ => none
/-- No cell behind the sixth. -/
def Tight (s : St) : Prop := ∀ i, 6 ≤ i → s.c i = 0
theorem stOf_read {s : St} (h : Tight s) : stOf (stN s) = some s := by
  obtain ⟨a, c, f⟩ := s
  unfold stN stOf
  have hf : ¬ (1 : Int) < (if f = true then 1 else 0) := by cases f <;> simp
  simp only
  rw [if_neg hf]
  congr 1
  have hc : (fun i => if i = 0 then c 0 else if i = 1 then c 1 else if i = 2 then c 2 else if i = 3 then c 3 else if i = 4 then c 4 else if i = 5 then c 5 else 0) = c := by
    funext i
    by_cases h6 : 6 ≤ i
    · rw [if_neg (by omega), if_neg (by omega), if_neg (by omega), if_neg (by omega), if_neg (by omega), if_neg (by omega)]
      exact (h i h6).symm
    · match i, h6 with
      | 0, _ => rfl
      | 1, _ => rfl
      | 2, _ => rfl
      | 3, _ => rfl
      | 4, _ => rfl
      | 5, _ => rfl
      | n + 6, h6 => omega
  rw [hc]
  cases f <;> rfl
/-- The room that a line is; the line that it is. -/
def sroomOf (u : List UInt8) : Option St := match wnL u with
  | some (w, ns) => if w = snRoomW then stOf ns else none
  | none => none
def swireOf (x : W4) (u : List UInt8) : Option LnD := match wnL u with
  | some (w, n :: ns) => if w = snWireW then some ⟨x, ns, n⟩ else none
  | _ => none
def stimeOf (u : List UInt8) : Option Int := match wnL u with
  | some (w, [n]) => if w = snTimeW then some n else none
  | _ => none
theorem sroom_read {s : St} (ht : Tight s) (h : ∀ n ∈ stN s, 0 ≤ n ∧ n ≤ 9999999) : sroomOf (sroomL s) = some s := by
  unfold sroomOf sroomL
  rw [wn_line (by decide) _ h]
  simp only
  rw [if_pos trivial, stOf_read ht]
theorem swire_read {l : LnD} {x : W4} (hx : l.w = x) (h : ∀ n ∈ l.ls :: l.xs, 0 ≤ n ∧ n ≤ 9999999) : swireOf x (swireL l) = some l := by
  unfold swireOf swireL
  rw [wn_line (by decide) _ h]
  simp only
  rw [if_pos trivial, ← hx]
theorem stime_read {t : Int} (h : 0 ≤ t ∧ t ≤ 9999999) : stimeOf (stimeL t) = some t := by
  unfold stimeOf stimeL
  rw [wn_line (by decide) _ (fun z hz => by rw [List.mem_singleton] at hz; subst hz; exact h)]
  simp only
  rw [if_pos trivial]
/-- All of some lines. -/
def sroomsOf : List (List UInt8) → Option (List St)
  | [] => some []
  | u :: ls => match sroomOf u, sroomsOf ls with
    | some s, some l => some (s :: l)
    | _, _ => none
def swiresOf : List W4 → List (List UInt8) → Option (List LnD)
  | [], [] => some []
  | x :: xs, u :: ls => match swireOf x u, swiresOf xs ls with
    | some a, some l => some (a :: l)
    | _, _ => none
  | _, _ => none
theorem srooms_read : ∀ {l : List St}, (∀ s ∈ l, Tight s ∧ ∀ n ∈ stN s, 0 ≤ n ∧ n ≤ 9999999) → sroomsOf (l.map sroomL) = some l
  | [], _ => rfl
  | s :: l, h => by
    have h0 := h s (List.mem_cons_self ..)
    rw [List.map_cons, sroomsOf, sroom_read h0.1 h0.2, srooms_read (fun x hx => h x (List.mem_cons_of_mem _ hx))]
theorem swires_read : ∀ {l : List LnD}, (∀ a ∈ l, ∀ n ∈ a.ls :: a.xs, 0 ≤ n ∧ n ≤ 9999999) → swiresOf (l.map (·.w)) (l.map swireL) = some l
  | [], _ => rfl
  | a :: l, h => by
    have h0 := h a (List.mem_cons_self ..)
    rw [List.map_cons, List.map_cons, swiresOf, swire_read rfl h0, swires_read (fun x hx => h x (List.mem_cons_of_mem _ hx))]
/-- A kernel of lines: the time, so many rooms, then the wires. -/
def snOf (p : PD) : List (List UInt8) → Option KD
  | [] => none
  | u :: ls => match stimeOf u, sroomsOf (ls.take p.code.length), swiresOf p.wires (ls.drop p.code.length) with
    | some t, some rs, some ws => some ⟨rs, ws, t⟩
    | _, _, _ => none
/-- May it be so in the plan? -/
def lineBad (l : LnD) : Bool := decide (l.w.2.2.2 < (l.xs.length : Int)) || (decide (l.w.2.2.1 = 1) && decide (l.ls ≠ 0)) || l.xs.any fun n => decide (999 < n)
def roomsBad : List (List O3) → List St → Bool
  | c :: cs, s :: ss => !stOk s c.length || roomsBad cs ss
  | _, _ => false
def snBad (p : PD) (k : KD) : Bool := roomsBad p.code k.rooms || k.lines.any lineBad
/-- A text as a kernel of a plan that is right: the kernel, and the fault. -/
def snK (p : PD) (o : Option KD) : KD × Int := match o with
  | none => (newK p, 2)
  | some k => if snBad p k = true then (newK p, 1) else (k, 0)
def snP (p : PD) (t : List UInt8) : KD × Int :=
  if (cutB 10 t).getLast? = some [] ∧ (cutB 10 t).length = 2 + p.code.length + p.wires.length then snK p (snOf p (cutB 10 t).dropLast) else (newK p, 2)
theorem snL_len (k : KD) : (snL k).length = 1 + k.rooms.length + k.lines.length := by
  simp [snL]
  omega
theorem sroomL_not (s : St) (h : ∀ n ∈ stN s, 0 ≤ n) : (10 : UInt8) ∉ sroomL s := not_word (by decide) h
theorem snL_not {k : KD} (h0 : 0 ≤ k.time) (h1 : ∀ s ∈ k.rooms, ∀ n ∈ stN s, 0 ≤ n) (h2 : ∀ a ∈ k.lines, ∀ n ∈ a.ls :: a.xs, 0 ≤ n) : ∀ u ∈ snL k, (10 : UInt8) ∉ u := by
  intro u hu
  unfold snL at hu
  rcases List.mem_cons.1 hu with rfl | hu
  · exact not_word (by decide) (fun z hz => by rw [List.mem_singleton] at hz; subst hz; exact h0)
  · rcases List.mem_append.1 hu with hu | hu
    · obtain ⟨s, hs, rfl⟩ := List.mem_map.1 hu
      exact sroomL_not s (h1 s hs)
    · obtain ⟨a, ha, rfl⟩ := List.mem_map.1 hu
      exact not_word (by decide) (h2 a ha)
theorem sn_cut {k : KD} (h0 : 0 ≤ k.time) (h1 : ∀ s ∈ k.rooms, ∀ n ∈ stN s, 0 ≤ n) (h2 : ∀ a ∈ k.lines, ∀ n ∈ a.ls :: a.xs, 0 ≤ n) : cutB 10 (snB k) = snL k ++ [[]] := cut_endL _ (snL_not h0 h1 h2)
/-- What is printed is read as it was. -/
theorem sn_read {p : PD} {k : KD} (hr : k.rooms.length = p.code.length) (hw : k.lines.map (·.w) = p.wires) (h0 : 0 ≤ k.time ∧ k.time ≤ 9999999) (h1 : ∀ s ∈ k.rooms, Tight s ∧ ∀ n ∈ stN s, 0 ≤ n ∧ n ≤ 9999999) (h2 : ∀ a ∈ k.lines, ∀ n ∈ a.ls :: a.xs, 0 ≤ n ∧ n ≤ 9999999) (hb : snBad p k = false) : snP p (snB k) = (k, 0) := by
  have hc := sn_cut (k := k) h0.1 (fun s hs n hn => ((h1 s hs).2 n hn).1) (fun a ha n hn => (h2 a ha n hn).1)
  have hwl : k.lines.length = p.wires.length := by rw [← hw, List.length_map]
  have ho : snOf p (snL k) = some k := by
    unfold snL snOf
    simp only
    have e1 : (k.rooms.map sroomL ++ k.lines.map swireL).take p.code.length = k.rooms.map sroomL := List.take_left' (by rw [List.length_map, hr])
    have e2 : (k.rooms.map sroomL ++ k.lines.map swireL).drop p.code.length = k.lines.map swireL := List.drop_left' (by rw [List.length_map, hr])
    rw [e1, e2, stime_read h0, srooms_read h1, ← hw, swires_read h2]
  unfold snP
  rw [hc, List.getLast?_concat, if_pos ⟨rfl, by rw [List.length_append, snL_len, hr, hwl]; simp; omega⟩, List.dropLast_concat, ho]
  unfold snK
  simp only
  rw [if_neg (by rw [hb]; decide)]
end Go.Proofs.YtajfgmlockjmhaiGreatDoor
namespace Go.Proofs.YtajfgmlockjmhaiGreatDoor

theorem n7_snoc (ps : List (List UInt8)) (ns : List Int) (p : List UInt8) (n : Int) (h : nums7 ps = some ns) (hn : numB7 p = some n) : nums7 (ps ++ [p]) = some (ns ++ [n]) := by
  induction ps generalizing ns with
  | nil => obtain rfl := Option.some.inj h; simp [nums7, hn]
  | cons q qs ih =>
    unfold nums7 at h
    cases hq : numB7 q with
    | none => rw [hq] at h; cases h
    | some m =>
      cases hqs : nums7 qs with
      | none => rw [hq, hqs] at h; cases h
      | some ms =>
        rw [hq, hqs] at h
        obtain rfl := Option.some.inj h
        rw [List.cons_append, nums7, hq, ih ms hqs]
        rfl
theorem n7_bad {ps qs : List (List UInt8)} {p : List UInt8} (hn : numB7 p = none) : nums7 (ps ++ p :: qs) = none := by
  induction ps with
  | nil => rw [List.nil_append, nums7, hn]
  | cons q rs ih =>
    rw [List.cons_append, nums7, ih]
    cases numB7 q <;> rfl
theorem n7_len {ps : List (List UInt8)} {ns : List Int} (h : nums7 ps = some ns) : ns.length = ps.length := (nums7_back h).2.1
theorem wnL_no {u : List UInt8} (h : (32 : UInt8) ∉ u) : wnL u = some (u, []) := by
  unfold wnL cutB
  rw [cutGo_none 32 u [] h]
  rfl
theorem wnL_at {a v : List UInt8} (h : (32 : UInt8) ∉ a) : wnL (a ++ 32 :: v) = (nums7 (cutB 32 v)).map fun ns => (a, ns) := by
  unfold wnL
  rw [show cutB 32 (a ++ 32 :: v) = a :: cutB 32 v from cutGo_at 32 a [] v h]
/-- A line, with its end, as a word, and numbers. -/
def read7B (l : List UInt8) : Option (List UInt8 × List Int) := if l.getLast? = some 10 then wnL l.dropLast else none
theorem read7B_snoc (u : List UInt8) : read7B (u ++ [10]) = wnL u := by simp [read7B]
theorem read7B_none {l : List UInt8} (h : ∀ u, l ≠ u ++ [10]) : read7B l = none := by
  unfold read7B
  rw [if_neg]
  intro e
  obtain ⟨u, hu⟩ := List.getLast?_eq_some_iff.1 e
  exact h u hu
end Go.Proofs.YtajfgmlockjmhaiGreatDoor
namespace Go.Proofs.YtajfgmlockjmhaiGreatDoor

/-- No cell behind the sixth is laid; no sample has lost anything. -/
structure Keep (k : KD) : Prop where
  tight : ∀ s ∈ k.rooms, Tight s
  samp : ∀ l ∈ k.lines, l.w.2.2.1 = 1 → l.ls = 0
theorem upd_tight {c : Nat → Int} (h : ∀ i, 6 ≤ i → c i = 0) {a : Nat} (ha : a < 6) (n : Int) : ∀ i, 6 ≤ i → upd c a n i = 0 := fun i hi => by
  unfold upd
  rw [if_neg (by omega)]
  exact h i hi
theorem step_tight {o : O3} {s : St} {n : Nat} {got : Int} {is : Bool} {m : Int} (ho : ok3 m o = true) (h : Tight s) : Tight (stepF o s n got is) := by
  have ha : o.2.1.toNat < 6 := by
    have h1 := (ok3_range ho).2.2
    have h2 := (bA_le o.1).2
    omega
  unfold stepF
  split
  · exact h
  · show ∀ i, 6 ≤ i → cellsF o s.c got is i = 0
    unfold cellsF
    repeat' split
    all_goals first | exact upd_tight h ha _ | exact h
theorem new_keep (p : PD) : Keep (newK p) := by
  refine ⟨fun s hs => ?_, fun l hl _ => ?_⟩
  · unfold newK at hs
    obtain ⟨_, _, rfl⟩ := List.mem_map.1 hs
    exact fun _ _ => rfl
  · unfold newK at hl
    obtain ⟨_, _, rfl⟩ := List.mem_map.1 hl
    rfl
theorem rest_keep (l : LnD) : (restL l).w = l.w ∧ (restL l).ls = l.ls := by
  unfold restL
  split
  · exact ⟨rfl, rfl⟩
  · split <;> exact ⟨rfl, rfl⟩
theorem put_keep (l : LnD) (n : Int) : (putL l n).w = l.w ∧ (l.w.2.2.1 = 1 → (putL l n).ls = l.ls) := by
  unfold putL
  split
  · exact ⟨rfl, fun _ => rfl⟩
  · rename_i h
    split
    · exact ⟨rfl, fun e => absurd e h⟩
    · exact ⟨rfl, fun e => absurd e h⟩
theorem getD_samp {ls : List LnD} (h : ∀ l ∈ ls, l.w.2.2.1 = 1 → l.ls = 0) (i : Nat) : (ls.getD i LnD.none).w.2.2.1 = 1 → (ls.getD i LnD.none).ls = 0 := by
  intro e
  cases hi : ls[i]? with
  | none =>
    rw [List.getD, hi]
    rfl
  | some l =>
    rw [List.getD, hi] at e ⊢
    exact h l (List.mem_of_getElem? hi) e
theorem lines_keep {k : KD} (h : ∀ l ∈ k.lines, l.w.2.2.1 = 1 → l.ls = 0) (o : O3) (s : St) (sent : Int) : ∀ l ∈ linesS (linesT k o s) o sent, l.w.2.2.1 = 1 → l.ls = 0 := by
  have h1 : ∀ l ∈ linesT k o s, l.w.2.2.1 = 1 → l.ls = 0 := by
    unfold linesT
    split
    · intro l hl e
      rcases List.mem_or_eq_of_mem_set hl with hl | rfl
      · exact h l hl e
      · obtain ⟨e1, e2⟩ := rest_keep (lineAt k o)
        rw [e1] at e
        rw [e2]
        exact getD_samp h _ e
    · exact h
  unfold linesS
  split
  · intro l hl e
    rcases List.mem_or_eq_of_mem_set hl with hl | rfl
    · exact h1 l hl e
    · obtain ⟨e1, e2⟩ := put_keep ((linesT k o s).getD o.2.2.toNat LnD.none) sent
      rw [e1] at e
      rw [e2 e]
      exact getD_samp h1 _ e
  · exact h1
theorem tick_keep {p : PD} {k : KD} (hp : plchk p = 0) (hk : KOk p k) (h : Keep k) : Keep (tickK p p.spans k).1 := by
  have hw := (who_room hp (k.time % p.ticks)).2
  unfold tickK
  simp only
  split
  · exact ⟨h.tight, h.samp⟩
  · rename_i hneg
    obtain ⟨rn, hrn⟩ : ∃ n : Nat, hold p.spans (k.time % p.ticks) = n := ⟨(hold p.spans (k.time % p.ticks)).toNat, by omega⟩
    rw [hrn] at hw ⊢
    have hlt : rn < p.code.length := by simpa using hw (by omega)
    obtain ⟨c, s, o, ht⟩ := turn_of hp hk hlt
    obtain ⟨e1, e2, e3⟩ := ht.at
    rw [Int.toNat_natCast]
    unfold turnK
    simp only [e1, e2, e3]
    refine ⟨fun s' hs' => ?_, lines_keep h.samp o s _⟩
    rcases List.mem_or_eq_of_mem_set hs' with hs' | rfl
    · exact h.tight s' hs'
    · exact step_tight ht.ok (h.tight s (List.mem_of_getElem? ht.hs))
theorem kT_keep {p : PD} (hp : plchk p = 0) : ∀ n, Keep (kT p n)
  | 0 => new_keep p
  | n + 1 => tick_keep hp (kT_ok hp n) (kT_keep hp n)
/-- A kernel whose numbers are small enough to be printed. -/
structure SnSmall (k : KD) : Prop where
  rl : k.rooms.length ≤ 5
  ll : k.lines.length ≤ 12
  tm : 0 ≤ k.time ∧ k.time ≤ 100000000
  rooms : ∀ s ∈ k.rooms, ∀ n ∈ stN s, 0 ≤ n ∧ n ≤ 100000000
  lines : ∀ l ∈ k.lines, ∀ n ∈ l.ls :: l.xs, 0 ≤ n ∧ n ≤ 100000000
  deep : ∀ l ∈ k.lines, l.xs.length ≤ 6
theorem stN_small {s : St} {n : Nat} (h : stOk s n = true) (hn : n ≤ 20) : ∀ z ∈ stN s, 0 ≤ z ∧ z ≤ 999 := by
  obtain ⟨h1, h2, h3⟩ := stOk_iff.1 h
  have hc := fun i hi => h3 i hi
  intro z hz
  unfold stN at hz
  simp only [List.mem_cons, List.not_mem_nil, or_false] at hz
  rcases hz with rfl | rfl | rfl | rfl | rfl | rfl | rfl | rfl
  · omega
  · exact hc 0 (by decide)
  · exact hc 1 (by decide)
  · exact hc 2 (by decide)
  · exact hc 3 (by decide)
  · exact hc 4 (by decide)
  · exact hc 5 (by decide)
  · split <;> omega
/-- What rooms and lines of a kernel that is right are like. -/
theorem room_of {p : PD} {k : KD} (hp : plchk p = 0) (hk : KOk p k) {s : St} (hs : s ∈ k.rooms) : ∀ z ∈ stN s, 0 ≤ z ∧ z ≤ 999 := by
  obtain ⟨i, hi⟩ := List.mem_iff_getElem?.1 hs
  have hlt := (List.getElem?_eq_some_iff.1 hi).1
  have hc : p.code[i]? = some (p.code[i]'(by rw [← hk.rl]; exact hlt)) := List.getElem?_eq_getElem _
  exact stN_small (hk.rooms i _ s hc hi) (chk_zero (codesE_zero (plchk_zero hp).2.2.2.2.2.2.1 _ (List.mem_of_getElem? hc))).2.1
theorem line_of {p : PD} {k : KD} (hk : KOk p k) {l : LnD} (hl : l ∈ k.lines) : ∃ x ∈ p.wires, LnOk l x := by
  obtain ⟨i, hi⟩ := List.mem_iff_getElem?.1 hl
  have hlt := (List.getElem?_eq_some_iff.1 hi).1
  have hx : p.wires[i]? = some (p.wires[i]'(by rw [← hk.ll]; exact hlt)) := List.getElem?_eq_getElem _
  exact ⟨_, List.mem_of_getElem? hx, hk.lines i l _ hi hx⟩
theorem line_few {p : PD} {k : KD} (hp : plchk p = 0) (hk : KOk p k) {l : LnD} (hl : l ∈ k.lines) : (l.xs.length : Int) ≤ l.w.2.2.2 ∧ l.xs.length ≤ 6 := by
  obtain ⟨x, hx, ho⟩ := line_of hk hl
  have hw := wchk_kind ((wschk_ok (plchk_zero hp).2.2.2.1).2 x hx)
  rw [ho.w]
  rcases hw with ⟨h1, h2⟩ | ⟨h1, h2, h3⟩
  · have := ho.one h1
    omega
  · have := ho.deep h1
    omega
theorem snap_small {p : PD} {k : KD} (hp : plchk p = 0) (hk : KOk p k) (ht : k.time ≤ 90000000) (hl : ∀ l ∈ k.lines, l.ls ≤ 90000000) : SnSmall k := by
  have hw12 := (wschk_ok (plchk_zero hp).2.2.2.1).1
  refine ⟨by rw [hk.rl]; exact (plchk_zero hp).1, by rw [hk.ll]; exact hw12, ⟨hk.time, by omega⟩, fun s hs n hn => by have := room_of hp hk hs n hn; omega, fun l hl' n hn => ?_, fun l hl' => (line_few hp hk hl').2⟩
  obtain ⟨x, _, ho⟩ := line_of hk hl'
  rcases List.mem_cons.1 hn with rfl | hn
  · have := ho.ls
    have := hl l hl'
    omega
  · have := ho.xs n hn
    omega
theorem roomsBad_none : ∀ {cs : List (List O3)} {ss : List St}, (∀ (i : Nat) c s, cs[i]? = some c → ss[i]? = some s → stOk s c.length = true) → roomsBad cs ss = false
  | [], ss, _ => by cases ss <;> rfl
  | c :: cs, [], _ => rfl
  | c :: cs, s :: ss, h => by
    rw [roomsBad, h 0 c s rfl rfl, roomsBad_none (fun i c' s' hc hs => h (i + 1) c' s' (by simpa using hc) (by simpa using hs))]
    rfl
theorem roomsBad_all : ∀ {cs : List (List O3)} {ss : List St}, roomsBad cs ss = false → ∀ (i : Nat) c s, cs[i]? = some c → ss[i]? = some s → stOk s c.length = true
  | [], _, _, i, c, s, hc, _ => by simp at hc
  | _ :: _, [], _, i, c, s, _, hs => by simp at hs
  | c' :: cs, s' :: ss, h, 0, c, s, hc, hs => by
    simp at hc hs
    subst hc
    subst hs
    rw [roomsBad, Bool.or_eq_false_iff] at h
    simpa using h.1
  | c' :: cs, s' :: ss, h, i + 1, c, s, hc, hs => by
    rw [roomsBad, Bool.or_eq_false_iff] at h
    exact roomsBad_all h.2 i c s (by simpa using hc) (by simpa using hs)
theorem keep_wires {p : PD} {k : KD} (hk : KOk p k) : k.lines.map (·.w) = p.wires := by
  apply List.ext_getElem?
  intro i
  rw [List.getElem?_map]
  cases hi : k.lines[i]? with
  | none =>
    have : p.wires.length ≤ i := by
      rw [← hk.ll]
      exact List.getElem?_eq_none_iff.1 hi
    rw [List.getElem?_eq_none_iff.2 this]
    rfl
  | some l =>
    have hlt := (List.getElem?_eq_some_iff.1 hi).1
    have hx : p.wires[i]? = some (p.wires[i]'(by rw [← hk.ll]; exact hlt)) := List.getElem?_eq_getElem _
    rw [hx, Option.map_some, (hk.lines i l _ hi hx).w]
/-- What was kept is read as it was. -/
theorem snap_read {p : PD} {k : KD} (hp : plchk p = 0) (hk : KOk p k) (h : Keep k) (ht : k.time ≤ 9999999) (hl : ∀ l ∈ k.lines, l.ls ≤ 9999999) : snP p (snB k) = (k, 0) := by
  refine sn_read hk.rl (keep_wires hk) ⟨hk.time, ht⟩ (fun s hs => ⟨h.tight s hs, fun n hn => by have := room_of hp hk hs n hn; omega⟩) (fun l hl' n hn => ?_) ?_
  · obtain ⟨x, _, ho⟩ := line_of hk hl'
    rcases List.mem_cons.1 hn with rfl | hn
    · exact ⟨ho.ls, hl l hl'⟩
    · have := ho.xs n hn
      omega
  · unfold snBad
    rw [roomsBad_none hk.rooms, Bool.false_or, List.any_eq_false]
    intro l hl'
    obtain ⟨x, _, ho⟩ := line_of hk hl'
    unfold lineBad
    rw [Bool.not_eq_true, Bool.or_eq_false_iff, Bool.or_eq_false_iff, Bool.and_eq_false_iff]
    refine ⟨⟨decide_eq_false (by have := (line_few hp hk hl').1; omega), ?_⟩, ?_⟩
    · by_cases h1 : l.w.2.2.1 = 1
      · exact Or.inr (decide_eq_false (by simpa using h.samp l hl' h1))
      · exact Or.inl (decide_eq_false h1)
    · rw [List.any_eq_false]
      intro n hn
      have := ho.xs n hn
      simp
      omega
end Go.Proofs.YtajfgmlockjmhaiGreatDoor
namespace Go.Proofs.YtajfgmlockjmhaiGreatDoor

theorem numB7_le {l : List UInt8} {n : Int} (h : numB7 l = some n) : n ≤ 9999999 := by
  obtain ⟨h1, h2⟩ := numB7_form h
  have h0 := (numB7_some h).2.1
  have hd : ∀ d ∈ l, isD d := fun d hd => by
    rw [h2] at hd
    exact dec_mem _ d hd
  have hne : l ≠ [] := by rw [h2]; exact dec_ne _
  have hg := num7_good hd hne h1 (fun hh => by
    have hz := dec_head n.toNat (by rw [← h2]; exact hh)
    rw [h2, hz, Lib.decDigits_one (by omega)]
    rfl)
  rw [h] at hg
  obtain rfl := Option.some.inj hg
  exact (valD_le7 l hd h1).2
theorem nums7_le : ∀ {ps : List (List UInt8)} {ns : List Int}, nums7 ps = some ns → ∀ n ∈ ns, n ≤ 9999999
  | [], ns, h => by
    obtain rfl := Option.some.inj h
    exact fun n hn => (by cases hn)
  | u :: ps, ns, h => by
    unfold nums7 at h
    cases h1 : numB7 u with
    | none => rw [h1] at h; cases h
    | some n =>
      cases h2 : nums7 ps with
      | none => rw [h1, h2] at h; cases h
      | some l =>
        rw [h1, h2] at h
        obtain rfl := Option.some.inj h
        intro m hm
        rcases List.mem_cons.1 hm with rfl | hm
        · exact numB7_le h1
        · exact nums7_le h2 m hm
theorem wn_le {u w : List UInt8} {ns : List Int} (h : wnL u = some (w, ns)) : ∀ n ∈ ns, n ≤ 9999999 := by
  unfold wnL at h
  split at h
  · cases h
  · obtain ⟨ns', hn, e⟩ := Option.map_eq_some_iff.1 h
    injection e with e1 e2
    subst e2
    exact nums7_le hn
/-- A kernel that may be kept, and read again. -/
structure Kept (p : PD) (k : KD) : Prop where
  ok : KOk p k
  keep : Keep k
  tm : k.time ≤ 9999999
  ls : ∀ l ∈ k.lines, l.ls ≤ 9999999
theorem put_lost (l : LnD) (n : Int) : (putL l n).ls ≤ l.ls + 1 := by
  unfold putL
  split
  · show l.ls ≤ _; omega
  · split
    · show l.ls ≤ _; omega
    · exact Int.le_refl _
theorem getD_lost {ls : List LnD} {m : Int} (hm : 0 ≤ m) (h : ∀ l ∈ ls, l.ls ≤ m) (i : Nat) : (ls.getD i LnD.none).ls ≤ m := by
  cases hi : ls[i]? with
  | none =>
    rw [List.getD, hi]
    exact hm
  | some l =>
    rw [List.getD, hi]
    exact h l (List.mem_of_getElem? hi)
theorem lines_lost {k : KD} {m : Int} (hm : 0 ≤ m) (h : ∀ l ∈ k.lines, l.ls ≤ m) (o : O3) (s : St) (sent : Int) : ∀ l ∈ linesS (linesT k o s) o sent, l.ls ≤ m + 1 := by
  have h1 : ∀ l ∈ linesT k o s, l.ls ≤ m := by
    unfold linesT
    split
    · intro l hl
      rcases List.mem_or_eq_of_mem_set hl with hl | rfl
      · exact h l hl
      · rw [(rest_keep (lineAt k o)).2]
        exact getD_lost hm h _
    · exact h
  unfold linesS
  split
  · intro l hl
    rcases List.mem_or_eq_of_mem_set hl with hl | rfl
    · have := h1 l hl
      omega
    · have h2 := put_lost ((linesT k o s).getD o.2.2.toNat LnD.none) sent
      have h3 := getD_lost hm h1 o.2.2.toNat
      omega
  · intro l hl
    have := h1 l hl
    omega
theorem tick_lost {p : PD} {sp : List S3} {k : KD} {m : Int} (hm : 0 ≤ m) (h : ∀ l ∈ k.lines, l.ls ≤ m) : ∀ l ∈ (tickK p sp k).1.lines, l.ls ≤ m + 1 := by
  unfold tickK
  simp only
  split
  · intro l hl
    have := h l hl
    omega
  · unfold turnK
    simp only
    exact lines_lost hm h _ _ _
theorem kT_lost (p : PD) : ∀ n : Nat, ∀ l ∈ (kT p n).lines, l.ls ≤ n
  | 0 => fun l hl => by
    have hl' : l ∈ (newK p).lines := hl
    unfold newK at hl'
    obtain ⟨_, _, rfl⟩ := List.mem_map.1 hl'
    exact Int.le_refl _
  | n + 1 => fun l hl => by
    have := tick_lost (p := p) (sp := p.spans) (k := kT p n) (m := n) (by omega) (kT_lost p n) l hl
    push_cast
    exact this
/-- A kernel that came by ticks may be kept. -/
theorem kT_kept {p : PD} (hp : plchk p = 0) {n : Nat} (hn : n ≤ 1000) : Kept p (kT p n) := ⟨kT_ok hp n, kT_keep hp n, by rw [kT_time]; omega, fun l hl => by have := kT_lost p n l hl; omega⟩
/-- The fault of a text as a kernel of any plan. -/
def snE (p : PD) (t : List UInt8) : Int := if plchk p = 0 then (snP p t).2 else plchk p
theorem snE_ok {p : PD} {t : List UInt8} (hp : plchk p = 0) : snE p t = (snP p t).2 := by
  unfold snE
  rw [if_pos hp]
theorem snE_no {p : PD} {t : List UInt8} (hp : plchk p ≠ 0) : snE p t = plchk p := by
  unfold snE
  rw [if_neg hp]
theorem Kept.small {p : PD} {k : KD} (hp : plchk p = 0) (h : Kept p k) : SnSmall k := snap_small hp h.ok (by have := h.tm; omega) (fun l hl => by have := h.ls l hl; omega)
theorem Kept.read {p : PD} {k : KD} (hp : plchk p = 0) (h : Kept p k) : snP p (snB k) = (k, 0) := snap_read hp h.ok h.keep h.tm h.ls
end Go.Proofs.YtajfgmlockjmhaiGreatDoor
namespace Go.Proofs.YtajfgmlockjmhaiGreatDoor
open Go.RowKit

/-- A kernel is kept as its text. -/
def SnpSave {G : World → Prop} (C : KerC G) : Prop := ∀ {w0 W p vc vs vw k kb F} (uc us uw : Value), G w0 → C.K w0 W p vc vs vw k kb F → Pln W uc us uw p → plchk p = 0 → KOk p k → SnSmall k → Calls Tryz.prog 10 #[.pointer (some ⟨kb, 0, none⟩), plV uc p.ticks us uw] W fun e w' => e = .returned (.tuple #[.string ⟨(snB k).toArray⟩, .nilIface]) ∧ Below W.heap.size W w'
/-- A text is read as a kernel. -/
def SnpLoad {G : World → Prop} (C : KerC G) : Prop := ∀ (p : PD) (vc vs vw : Value) (t : ByteArray) (W : World), G W → Pln W vc vs vw p → t.size ≤ 1099511627776 → snE p t.data.toList = 0 → Calls Tryz.prog 11 #[plV vc p.ticks vs vw, .string t] W fun e w' => ∃ kb F, e = .returned (.tuple #[.pointer (some ⟨kb, 0, none⟩), .nilIface]) ∧ C.K W w' p vc vs vw (snP p t.data.toList).1 kb F
end Go.Proofs.YtajfgmlockjmhaiGreatDoor
namespace Go.Proofs.YtajfgmlockjmhaiGreatDoor

/-- The text so far. -/
def sxR (k : KD) (j : Nat) : List UInt8 := stimeL k.time ++ [10] ++ endL ((k.rooms.take j).map sroomL)
def sxW (k : KD) (j : Nat) : List UInt8 := sxR k k.rooms.length ++ endL ((k.lines.take j).map swireL)
theorem sx_take {α : Type} {l : List α} {j : Nat} {x : α} (h : l[j]? = some x) : l.take (j + 1) = l.take j ++ [x] := by
  obtain ⟨hk, rfl⟩ := List.getElem?_eq_some_iff.1 h
  rw [List.take_succ_eq_append_getElem hk]
theorem endL_snoc (ls : List (List UInt8)) (u : List UInt8) : endL (ls ++ [u]) = endL ls ++ (u ++ [10]) := by simp [endL]
theorem sxR_zero (k : KD) : sxR k 0 = stimeL k.time ++ [10] := by simp [sxR, endL]
theorem sxW_zero (k : KD) : sxW k 0 = sxR k k.rooms.length := by simp [sxW, endL]
theorem sxR_next {k : KD} {j : Nat} {s : St} (h : k.rooms[j]? = some s) : sxR k (j + 1) = sxR k j ++ (sroomL s ++ [10]) := by
  unfold sxR
  rw [sx_take h, List.map_append, List.map_cons, List.map_nil, endL_snoc]
  simp only [List.append_assoc]
theorem sxW_next {k : KD} {j : Nat} {l : LnD} (h : k.lines[j]? = some l) : sxW k (j + 1) = sxW k j ++ (swireL l ++ [10]) := by
  unfold sxW
  rw [sx_take h, List.map_append, List.map_cons, List.map_nil, endL_snoc, List.append_assoc]
theorem sxW_all (k : KD) : sxW k k.lines.length = snB k := by
  unfold sxW sxR snB snL
  rw [List.take_length, List.take_length]
  simp [endL]
theorem endL_bound {n : Nat} : ∀ (ls : List (List UInt8)), (∀ u ∈ ls, u.length ≤ n) → (endL ls).length ≤ (n + 1) * ls.length
  | [], _ => by simp [endL]
  | u :: ls, h => by
    have h1 := endL_bound ls (fun v hv => h v (by simp [hv]))
    have h2 := h u (by simp)
    have e : endL (u :: ls) = u ++ [10] ++ endL ls := by simp [endL]
    rw [e, List.length_append, List.length_append, List.length_cons, List.length_cons, List.length_nil, Nat.mul_succ]
    omega
theorem tail_big {zs : List Int} (h : ∀ z ∈ zs, 0 ≤ z ∧ z ≤ 100000000) : (tail zs).length ≤ 22 * zs.length := tail_le zs (fun z hz => by have := h z hz; omega)
theorem sx_len {k : KD} (hs : SnSmall k) : (∀ j, (sxR k j).length ≤ 2000) ∧ ∀ j, (sxW k j).length ≤ 6000 := by
  have t0 := tail_big (zs := [k.time]) (fun z hz => by rw [List.mem_singleton] at hz; subst hz; exact hs.tm)
  have a1 : ∀ j, (sxR k j).length ≤ 2000 := fun j => by
    have := endL_bound (n := 200) ((k.rooms.take j).map sroomL) (fun u hu => by
      obtain ⟨s, hsm, rfl⟩ := List.mem_map.1 hu
      have := tail_big (hs.rooms s (List.mem_of_mem_take hsm))
      simp only [sroomL, snRoomW, stN, List.length_append, List.length_cons, List.length_nil] at this ⊢
      omega)
    have hl : (k.rooms.take j).length ≤ 5 := by rw [List.length_take]; have := hs.rl; omega
    rw [List.length_map] at this
    simp only [sxR, stimeL, snTimeW, List.length_append, List.length_cons, List.length_nil] at t0 ⊢
    omega
  refine ⟨a1, fun j => ?_⟩
  have := endL_bound (n := 200) ((k.lines.take j).map swireL) (fun u hu => by
    obtain ⟨l, hlm, rfl⟩ := List.mem_map.1 hu
    have h1 := tail_big (hs.lines l (List.mem_of_mem_take hlm))
    have h2 := hs.deep l (List.mem_of_mem_take hlm)
    simp only [swireL, snWireW, List.length_append, List.length_cons, List.length_nil] at h1 ⊢
    omega)
  have hl : (k.lines.take j).length ≤ 12 := by rw [List.length_take]; have := hs.ll; omega
  rw [List.length_map] at this
  have := a1 k.rooms.length
  simp only [sxW, List.length_append]
  omega
theorem snB_len {k : KD} (hs : SnSmall k) : (snB k).length ≤ 6000 := by
  rw [← sxW_all]
  exact (sx_len hs).2 _
end Go.Proofs.YtajfgmlockjmhaiGreatDoor
namespace Go.Proofs.YtajfgmlockjmhaiGreatDoor

def mixA {α : Type} (l d : List α) (n : Nat) : List α := l.take n ++ d.drop n
theorem mixA_all {α : Type} {l d : List α} (h : l.length = d.length) : mixA l d l.length = l := by
  unfold mixA
  rw [List.take_length, h, List.drop_length, List.append_nil]
theorem mixA_len {α : Type} {l d : List α} (h : l.length = d.length) (n : Nat) : (mixA l d n).length = d.length := by
  unfold mixA
  rw [List.length_append, List.length_take, List.length_drop]
  omega
theorem mixA_set {α : Type} {l d : List α} {n : Nat} {x : α} (h : l.length = d.length) (hx : l[n]? = some x) : (mixA l d n).set n x = mixA l d (n + 1) := by
  have hn := (List.getElem?_eq_some_iff.1 hx).1
  have hnd : n < d.length := by omega
  have e : (l.take n).length = n := by rw [List.length_take]; omega
  unfold mixA
  rw [List.drop_eq_getElem_cons hnd, List.set_append_right _ _ (by omega), e, Nat.sub_self, List.set_cons_zero, List.take_succ_eq_append_getElem hn, (List.getElem?_eq_some_iff.1 hx).2, List.append_assoc]
  rfl
theorem mixA_at {α : Type} {l d : List α} (h : l.length = d.length) {n i : Nat} {x : α} (hx : (mixA l d n)[i]? = some x) : (i < n ∧ l[i]? = some x) ∨ (n ≤ i ∧ d[i]? = some x) := by
  unfold mixA at hx
  by_cases hi : i < n ∧ i < l.length
  · rw [List.getElem?_append_left (by rw [List.length_take]; omega), List.getElem?_take_of_lt hi.1] at hx
    exact Or.inl ⟨hi.1, hx⟩
  · have hid : i < d.length := by
      have := (List.getElem?_eq_some_iff.1 hx).1
      rw [List.length_append, List.length_take, List.length_drop] at this
      omega
    rw [List.getElem?_append_right (by rw [List.length_take]; omega), List.getElem?_drop, List.length_take] at hx
    refine Or.inr ⟨by omega, ?_⟩
    rw [show n + (i - min n l.length) = i by omega] at hx
    exact hx
theorem mixA_new {α : Type} {l d : List α} (h : l.length = d.length) {n : Nat} (hn : n < d.length) : (mixA l d n)[n]? = d[n]? := by
  unfold mixA
  rw [List.getElem?_append_right (by rw [List.length_take]; omega), List.getElem?_drop, List.length_take, show n + (n - min n l.length) = n by omega]
/-- So many rooms, and so many wires, are laid. -/
def mixK (p : PD) (rs : List St) (ls : List LnD) (n m : Nat) : KD := ⟨mixA rs (newK p).rooms n, mixA ls (newK p).lines m, 0⟩
/-- So far nothing was wrong. -/
def okR (p : PD) (rs : List St) (n : Nat) : Prop := ∀ (j : Nat) c s, j < n → p.code[j]? = some c → rs[j]? = some s → stOk s c.length = true
def okW (ls : List LnD) (m : Nat) : Prop := ∀ (j : Nat) l, j < m → ls[j]? = some l → lineBad l = false
theorem okR_next {p : PD} {rs : List St} {n : Nat} {c : List O3} {s : St} (h : okR p rs n) (hc : p.code[n]? = some c) (hs : rs[n]? = some s) (ho : stOk s c.length = true) : okR p rs (n + 1) := fun j c' s' hj hc' hs' => by
  by_cases hjn : j < n
  · exact h j c' s' hjn hc' hs'
  · obtain rfl : j = n := by omega
    rw [hc] at hc'
    rw [hs] at hs'
    obtain rfl := Option.some.inj hc'
    obtain rfl := Option.some.inj hs'
    exact ho
theorem okW_next {ls : List LnD} {m : Nat} {l : LnD} (h : okW ls m) (hl : ls[m]? = some l) (ho : lineBad l = false) : okW ls (m + 1) := fun j l' hj hl' => by
  by_cases hjn : j < m
  · exact h j l' hjn hl'
  · obtain rfl : j = m := by omega
    rw [hl] at hl'
    obtain rfl := Option.some.inj hl'
    exact ho
theorem snBad_room {p : PD} {rs : List St} {ls : List LnD} {t : Int} {n : Nat} {c : List O3} {s : St} (hc : p.code[n]? = some c) (hs : rs[n]? = some s) (ho : stOk s c.length = false) : snBad p ⟨rs, ls, t⟩ = true := by
  unfold snBad
  rw [Bool.or_eq_true]
  left
  cases hb : roomsBad p.code rs with
  | true => rfl
  | false =>
    have := roomsBad_all hb n c s hc hs
    rw [ho] at this
    cases this
theorem snBad_wire {p : PD} {rs : List St} {ls : List LnD} {t : Int} {m : Nat} {l : LnD} (hl : ls[m]? = some l) (ho : lineBad l = true) : snBad p ⟨rs, ls, t⟩ = true := by
  unfold snBad
  rw [Bool.or_eq_true]
  right
  rw [List.any_eq_true]
  exact ⟨l, List.mem_of_getElem? hl, ho⟩
theorem snBad_no {p : PD} {rs : List St} {ls : List LnD} {t : Int} (hr : okR p rs rs.length) (hw : okW ls ls.length) : snBad p ⟨rs, ls, t⟩ = false := by
  unfold snBad
  rw [Bool.or_eq_false_iff]
  refine ⟨roomsBad_none (fun i c s hc hs => hr i c s (List.getElem?_eq_some_iff.1 hs).1 hc hs), ?_⟩
  rw [List.any_eq_false]
  intro l hl
  obtain ⟨j, hj⟩ := List.mem_iff_getElem?.1 hl
  rw [hw j l (List.getElem?_eq_some_iff.1 hj).1 hj]
  decide
/-- What was kept of a plan's kernel: numbers from 0 on, of at most seven digits. -/
structure KpOk (p : PD) (rs : List St) (ls : List LnD) : Prop where
  rl : rs.length = p.code.length
  lw : ls.map (·.w) = p.wires
  ln : ∀ l ∈ ls, 0 ≤ l.ls ∧ l.ls ≤ 9999999 ∧ (∀ n ∈ l.xs, 0 ≤ n) ∧ l.xs.length ≤ 2000000000000
theorem KpOk.ll {p : PD} {rs : List St} {ls : List LnD} (h : KpOk p rs ls) : ls.length = p.wires.length := by rw [← h.lw, List.length_map]
theorem KpOk.r {p : PD} {rs : List St} {ls : List LnD} (h : KpOk p rs ls) : rs.length = (newK p).rooms.length := by rw [h.rl]; simp [newK]
theorem KpOk.l {p : PD} {rs : List St} {ls : List LnD} (h : KpOk p rs ls) : ls.length = (newK p).lines.length := by rw [h.ll]; simp [newK]
theorem KpOk.wat {p : PD} {rs : List St} {ls : List LnD} (h : KpOk p rs ls) {i : Nat} {l : LnD} (hl : ls[i]? = some l) : p.wires[i]? = some l.w := by rw [← h.lw, List.getElem?_map, hl]; rfl
theorem KpOk.new {p : PD} {rs : List St} {ls : List LnD} (h : KpOk p rs ls) {i : Nat} {l : LnD} (hl : ls[i]? = some l) : (mixA ls (newK p).lines i)[i]? = some ⟨l.w, [], 0⟩ := by
  have hi := (List.getElem?_eq_some_iff.1 hl).1
  rw [mixA_new h.l (by rw [← h.l]; exact hi)]
  unfold newK
  simp only
  rw [List.getElem?_map, h.wat hl]
  rfl
theorem line_good {l : LnD} (hw : wchk l.w.1 l.w.2.1 l.w.2.2.1 l.w.2.2.2 = 0) (h : lineBad l = false) (hx : ∀ n ∈ l.xs, 0 ≤ n) (hs : 0 ≤ l.ls) : LnOk l l.w ∧ (l.xs.length : Int) ≤ l.w.2.2.2 := by
  unfold lineBad at h
  rw [Bool.or_eq_false_iff, Bool.or_eq_false_iff] at h
  obtain ⟨⟨h1, h2⟩, h3⟩ := h
  rw [decide_eq_false_iff_not] at h1
  rw [List.any_eq_false] at h3
  refine ⟨⟨rfl, fun n hn => ⟨hx n hn, ?_⟩, fun hk => ?_, fun hk => by omega, hs⟩, by omega⟩
  · have := h3 n hn
    simp at this
    omega
  · rcases wchk_kind hw with ⟨_, h5⟩ | ⟨h5, _⟩
    · omega
    · omega
theorem mixK_ok {p : PD} (hp : plchk p = 0) {rs : List St} {ls : List LnD} (h : KpOk p rs ls) {n m : Nat} (hr : okR p rs n) (hw : okW ls m) : KOk p (mixK p rs ls n m) := by
  have h0 := new_ok hp
  refine ⟨by unfold mixK; simp only; rw [mixA_len h.r]; exact h0.rl, by unfold mixK; simp only; rw [mixA_len h.l]; exact h0.ll, fun i c s hc hs => ?_, fun i l x hl hx => ?_, fun l hl => ?_, Int.le_refl _⟩
  · rcases mixA_at h.r hs with ⟨h1, h2⟩ | ⟨h1, h2⟩
    · exact hr i c s h1 hc h2
    · exact h0.rooms i c s hc h2
  · rcases mixA_at h.l hl with ⟨h1, h2⟩ | ⟨h1, h2⟩
    · have hx2 := h.wat h2
      rw [hx] at hx2
      obtain rfl := Option.some.inj hx2
      have hz := (wschk_ok (plchk_zero hp).2.2.2.1).2 _ (List.mem_of_getElem? hx)
      obtain ⟨q1, _, q3, _⟩ := h.ln l (List.mem_of_getElem? h2)
      exact (line_good hz (hw i l h1 h2) q3 q1).1
    · exact h0.lines i l x h2 hx
  · obtain ⟨i, hi⟩ := List.mem_iff_getElem?.1 hl
    show l.ls ≤ 0 + 10000000
    rcases mixA_at h.l hi with ⟨h1, h2⟩ | ⟨h1, h2⟩
    · have := (h.ln l (List.mem_of_getElem? h2)).2.1
      omega
    · have := h0.lost l (List.mem_of_getElem? h2)
      simp only [newK] at this
      omega
end Go.Proofs.YtajfgmlockjmhaiGreatDoor
namespace Go.Proofs.YtajfgmlockjmhaiGreatDoor
open Go.RowKit

set_option maxRecDepth 100000 in
set_option maxHeartbeats 1000000 in
theorem flag_any (b : Bool) (w : World) : Calls Tryz.prog 70 #[.bool b] w fun e w' => e = .returned (.int .i64 (if b = true then 1 else 0)) ∧ w' = w := by
  cases b
  · go_enter Tryz.func70, Tryz.ntmps70
    go_wp2
    go_ret
    exact ⟨rfl, rfl⟩
  · go_enter Tryz.func70, Tryz.ntmps70
    go_wp2
    go_ret
    exact ⟨rfl, rfl⟩
theorem ints_one (xs : List Int) : ∀ u ∈ ints xs, u.oneCell' = true := by
  intro u hu
  obtain ⟨x, _, rfl⟩ := List.mem_map.1 hu
  rfl
/-- A line of a word and numbers that lie in a row. -/
theorem line_row {base : Nat} (word : List UInt8) (v : Value) (zs : List Int) (W : World) (hp : Pow10 W) (hv : W.ownsRow base 3 1 v zs.length (ints zs)) (hne : zs ≠ []) (hz : ∀ z ∈ zs, 0 ≤ z ∧ z ≤ 100000000) (hw : word.length ≤ 10) (hl : zs.length ≤ 10) :
    Calls Tryz.prog 68 #[.string ⟨word.toArray⟩, v] W fun e w' => e = .returned (.string ⟨((word ++ tail zs) ++ [10]).toArray⟩) ∧ Below W.heap.size W w' := by
  have hi : Ints W v zs := by
    rcases row_form hv with ⟨rfl, h0⟩ | ⟨g, cap, rfl⟩
    · exact absurd (List.eq_nil_of_length_eq_zero h0) hne
    · obtain ⟨_, h2, h3, h4, h5, _, _⟩ := own_cap hv
      exact Or.inr ⟨⟨g, 0, none⟩, cap, rfl, h2, fun i x hx => by rw [Addr.add_lit, Nat.zero_add]; exact h5 i _ (ints_at hx)⟩
  have q := line_any ⟨word.toArray⟩ v zs W hp hi (fun z h => by have := hz z h; omega) (by rw [ba_size]; omega)
  simpa [lineB] using q
theorem conc_room (s : St) (b g g1 g2 : Nat) (W : World) (hg : g < W.heap.size) (h1 : g1 < W.heap.size) (hb : b < W.heap.size) (h2 : g2 < W.heap.size)
    (c0 : W.cell? ⟨g, 0, none⟩ = some (.slice (some ⟨g1, 0, none⟩) 1 1)) (c1 : W.cell? ⟨g, 1, none⟩ = some (.slice (some ⟨b, 1, none⟩) 6 6)) (c2 : W.cell? ⟨g, 2, none⟩ = some (.slice (some ⟨g2, 0, none⟩) 1 1))
    (d0 : W.cell? ⟨g1, 0, none⟩ = some (.int .i64 s.p)) (d1 : ∀ i, i < 6 → W.cell? ⟨b, 1 + i, none⟩ = some (.int .i64 (s.c i))) (d2 : W.cell? ⟨g2, 0, none⟩ = some (.int .i64 (if s.f = true then 1 else 0))) :
    Calls Tryz.prog 69 #[.slice (some ⟨g, 0, none⟩) 3 3] W fun e w' => ∃ ao c, e = .returned (.slice ao 8 c) ∧ w'.ownsRow W.heap.size 3 1 (.slice ao 8 c) (stN s).length (ints (stN s)) ∧ Below W.heap.size W w' := by
  have hfl : [ints [s.p], ints [s.c 0, s.c 1, s.c 2, s.c 3, s.c 4, s.c 5], ints [if s.f = true then 1 else 0]].flatten = ints (stN s) := by simp [ints, stN]
  have hln : (ints (stN s)).length = 8 := by simp [ints, stN]
  have q := concatI [.slice (some ⟨g1, 0, none⟩) 1 1, .slice (some ⟨b, 1, none⟩) 6 6, .slice (some ⟨g2, 0, none⟩) 1 1] [ints [s.p], ints [s.c 0, s.c 1, s.c 2, s.c 3, s.c 4, s.c 5], ints [if s.f = true then 1 else 0]] g 3 W rfl (Nat.le_refl _) (by rw [hfl, hln]; omega) (by rw [hfl, hln]; omega) hg
    (fun i v hv => by
      match i, hv with
      | 0, hv => simp at hv; subst hv; exact c0
      | 1, hv => simp at hv; subst hv; exact c1
      | 2, hv => simp at hv; subst hv; exact c2
      | i + 3, hv => simp at hv)
    (fun i v l hv hl => by
      match i, hv, hl with
      | 0, hv, hl =>
        simp at hv hl
        subst hv
        subst hl
        refine Or.inr ⟨g1, 0, 1, rfl, h1, fun j x hx => ?_⟩
        match j, hx with
        | 0, hx => simp [ints] at hx; subst hx; exact d0
        | j + 1, hx => simp [ints] at hx
      | 1, hv, hl =>
        simp at hv hl
        subst hv
        subst hl
        refine Or.inr ⟨b, 1, 6, rfl, hb, fun j x hx => ?_⟩
        match j, hx with
        | 0, hx => simp [ints] at hx; subst hx; exact d1 0 (by decide)
        | 1, hx => simp [ints] at hx; subst hx; exact d1 1 (by decide)
        | 2, hx => simp [ints] at hx; subst hx; exact d1 2 (by decide)
        | 3, hx => simp [ints] at hx; subst hx; exact d1 3 (by decide)
        | 4, hx => simp [ints] at hx; subst hx; exact d1 4 (by decide)
        | 5, hx => simp [ints] at hx; subst hx; exact d1 5 (by decide)
        | j + 6, hx => simp [ints] at hx
      | 2, hv, hl =>
        simp at hv hl
        subst hv
        subst hl
        refine Or.inr ⟨g2, 0, 1, rfl, h2, fun j x hx => ?_⟩
        match j, hx with
        | 0, hx => simp [ints] at hx; subst hx; exact d2
        | j + 1, hx => simp [ints] at hx
      | i + 3, hv, _ => simp at hv)
    (fun l hl y hy => by
      simp only [List.mem_cons, List.not_mem_nil, or_false] at hl
      rcases hl with rfl | rfl | rfl <;> exact ints_one _ y hy)
  rw [hfl, hln] at q
  exact q
theorem conc_wire (n : Int) (xs : List Int) (g g1 cap : Nat) (ao : Option Addr) (W : World) (hx : xs.length ≤ 6) (hg : g < W.heap.size) (h1 : g1 < W.heap.size) (c0 : W.cell? ⟨g, 0, none⟩ = some (.slice (some ⟨g1, 0, none⟩) 1 1)) (c1 : W.cell? ⟨g, 1, none⟩ = some (.slice ao xs.length cap))
    (d0 : W.cell? ⟨g1, 0, none⟩ = some (.int .i64 n)) (hr : Rd W (.slice ao xs.length cap) xs) :
    Calls Tryz.prog 69 #[.slice (some ⟨g, 0, none⟩) 2 2] W fun e w' => ∃ ao c, e = .returned (.slice ao (xs.length + 1) c) ∧ w'.ownsRow W.heap.size 3 1 (.slice ao (xs.length + 1) c) (n :: xs).length (ints (n :: xs)) ∧ Below W.heap.size W w' := by
  have hfl : [ints [n], ints xs].flatten = ints (n :: xs) := by simp [ints]
  have hln : (ints (n :: xs)).length = xs.length + 1 := by simp [ints]
  have q := concatI [.slice (some ⟨g1, 0, none⟩) 1 1, .slice ao xs.length cap] [ints [n], ints xs] g 2 W rfl (by simp) (by rw [hfl, hln]; omega) (by rw [hfl, hln]; omega) hg
    (fun i v hv => by
      match i, hv with
      | 0, hv => simp at hv; subst hv; exact c0
      | 1, hv => simp at hv; subst hv; exact c1
      | i + 2, hv => simp at hv)
    (fun i v l hv hl => by
      match i, hv, hl with
      | 0, hv, hl =>
        simp at hv hl
        subst hv
        subst hl
        refine Or.inr ⟨g1, 0, 1, rfl, h1, fun j x hx => ?_⟩
        match j, hx with
        | 0, hx => simp [ints] at hx; subst hx; exact d0
        | j + 1, hx => simp [ints] at hx
      | 1, hv, hl =>
        simp at hv hl
        subst hv
        subst hl
        rcases hr with ⟨hx, ao', cap', he⟩ | ⟨g', off, cap', he, _, _, h3, h4⟩
        · exact Or.inl ⟨by rw [hx]; rfl, ao, cap, by rw [hx]; rfl⟩
        · refine Or.inr ⟨g', off, cap', by rw [he, ints_len], h3, fun j x hx => ?_⟩
          unfold ints at hx
          rw [List.getElem?_map] at hx
          obtain ⟨y, hy, rfl⟩ := Option.map_eq_some_iff.1 hx
          exact h4 j y hy
      | i + 2, hv, _ => simp at hv)
    (fun l hl y hy => by
      simp only [List.mem_cons, List.not_mem_nil, or_false] at hl
      rcases hl with rfl | rfl <;> exact ints_one _ y hy)
  rw [hfl, hln] at q
  exact q
end Go.Proofs.YtajfgmlockjmhaiGreatDoor
namespace Go.Proofs.YtajfgmlockjmhaiGreatDoor

/-- What was kept so far: so many lines, the time, rooms, wires. -/
structure KA where
  i : Nat
  t : Int
  rs : List St
  zs : List (List Int × Int)
def KA.none : KA := ⟨0, 0, [], []⟩
/-- The word with which a line must begin. -/
def kpWord (R V i : Nat) : Option (List UInt8) := if i = 0 then some snTimeW else if i ≤ R then some snRoomW else if i ≤ R + V then some snWireW else none
/-- What a line of numbers says behind its word. -/
def kpTake (R : Nat) (a : KA) (ns : List Int) : Option KA :=
  if a.i = 0 then (match ns with
    | [n] => some ⟨1, n, a.rs, a.zs⟩
    | _ => Option.none)
  else if a.i ≤ R then (stOf ns).map fun s => ⟨a.i + 1, a.t, a.rs ++ [s], a.zs⟩
  else (match ns with
    | n :: xs => some ⟨a.i + 1, a.t, a.rs, a.zs ++ [(xs, n)]⟩
    | [] => Option.none)
def kpLine (R V : Nat) (a : KA) (l : List UInt8) : Option KA := match read7B l with
  | some (w, ns) => if kpWord R V a.i = some w then kpTake R a ns else Option.none
  | Option.none => Option.none
def kpRun (R V : Nat) : KA → List (List UInt8) → Option KA
  | a, [] => some a
  | a, l :: ls => match kpLine R V a l with
    | Option.none => Option.none
    | some b => kpRun R V b ls
theorem kpRun_snoc {R V : Nat} : ∀ {ls : List (List UInt8)} {a b : KA} {l : List UInt8}, kpRun R V a ls = some b → kpRun R V a (ls ++ [l]) = kpLine R V b l
  | [], a, b, l, h => by
    obtain rfl := Option.some.inj h
    show (match kpLine R V a l with | Option.none => Option.none | some b => some b) = _
    cases kpLine R V a l <;> rfl
  | x :: ls, a, b, l, h => by
    rw [List.cons_append, kpRun]
    rw [kpRun] at h
    cases hx : kpLine R V a x with
    | none => rw [hx] at h; cases h
    | some c =>
      rw [hx] at h
      exact kpRun_snoc h
theorem kpRun_app {R V : Nat} : ∀ {l1 l2 : List (List UInt8)} {a : KA}, kpRun R V a (l1 ++ l2) = (kpRun R V a l1).bind fun b => kpRun R V b l2
  | [], l2, a => rfl
  | x :: l1, l2, a => by
    rw [List.cons_append, kpRun, kpRun]
    cases hx : kpLine R V a x with
    | none => rfl
    | some c => exact kpRun_app
theorem kpLine_i {R V : Nat} {a b : KA} {l : List UInt8} (h : kpLine R V a l = some b) : b.i = a.i + 1 := by
  unfold kpLine at h
  split at h
  · split at h
    · unfold kpTake at h
      split at h
      · rename_i h0
        split at h
        · obtain rfl := Option.some.inj h
          simp [h0]
        · cases h
      · split at h
        · obtain ⟨s, _, rfl⟩ := Option.map_eq_some_iff.1 h
          rfl
        · split at h
          · obtain rfl := Option.some.inj h
            rfl
          · cases h
    · cases h
  · cases h
theorem kpRun_i {R V : Nat} : ∀ {ls : List (List UInt8)} {a b : KA}, kpRun R V a ls = some b → b.i = a.i + ls.length
  | [], a, b, h => by obtain rfl := Option.some.inj h; rfl
  | x :: ls, a, b, h => by
    rw [kpRun] at h
    cases hx : kpLine R V a x with
    | none => rw [hx] at h; cases h
    | some c =>
      rw [hx] at h
      have h1 := kpRun_i h
      have h2 := kpLine_i hx
      rw [List.length_cons]
      omega
/-- So many rooms, so many wires. -/
structure KAok (R V : Nat) (a : KA) : Prop where
  rs : a.rs.length = min (a.i - 1) R
  zs : a.zs.length = a.i - 1 - R
  le : a.i ≤ 1 + R + V
  nn : ∀ z ∈ a.zs, 0 ≤ z.2 ∧ z.2 ≤ 9999999 ∧ ∀ n ∈ z.1, 0 ≤ n
  tm : 0 ≤ a.t
theorem wn_none {w : List UInt8} {ns : List Int} {l : List UInt8} (h : read7B l = some (w, ns)) : ∀ n ∈ ns, 0 ≤ n ∧ n ≤ 9999999 := by
  unfold read7B at h
  split at h
  · exact fun n hn => ⟨(wn_back h).2 n hn, wn_le h n hn⟩
  · cases h
theorem kpLine_ok {R V : Nat} {a b : KA} {l : List UInt8} (ha : KAok R V a) (h : kpLine R V a l = some b) : KAok R V b := by
  obtain ⟨a1, a2, a3, a4, a5⟩ := ha
  unfold kpLine at h
  split at h
  · rename_i w ns hr
    have hn := wn_none hr
    split at h
    · rename_i hw
      unfold kpWord at hw
      unfold kpTake at h
      by_cases h0 : a.i = 0
      · rw [if_pos h0] at h
        split at h
        · obtain rfl := Option.some.inj h
          refine ⟨?_, ?_, by simp; omega, a4, ?_⟩
          · show a.rs.length = _
            rw [a1, h0]
            simp
          · show a.zs.length = _
            rw [a2, h0]
            simp
          · exact (hn _ (by simp)).1
        · cases h
      · rw [if_neg h0] at h hw
        by_cases hR : a.i ≤ R
        · rw [if_pos hR] at h
          obtain ⟨s, _, rfl⟩ := Option.map_eq_some_iff.1 h
          refine ⟨?_, ?_, by show a.i + 1 ≤ _; omega, a4, a5⟩
          · show (a.rs ++ [s]).length = min (a.i + 1 - 1) R
            rw [List.length_append, a1, List.length_singleton]
            omega
          · show a.zs.length = a.i + 1 - 1 - R
            rw [a2]
            omega
        · rw [if_neg hR] at h hw
          by_cases hV : a.i ≤ R + V
          · split at h
            · rename_i n xs
              obtain rfl := Option.some.inj h
              refine ⟨?_, ?_, by show a.i + 1 ≤ _; omega, fun z hz => ?_, a5⟩
              · show a.rs.length = min (a.i + 1 - 1) R
                rw [a1]
                omega
              · show (a.zs ++ [(xs, n)]).length = a.i + 1 - 1 - R
                rw [List.length_append, a2, List.length_singleton]
                omega
              · rcases List.mem_append.1 hz with hz | hz
                · exact a4 z hz
                · rw [List.mem_singleton] at hz
                  subst hz
                  exact ⟨(hn n (by simp)).1, (hn n (by simp)).2, fun m hm => (hn m (by simp [hm])).1⟩
            · cases h
          · rw [if_neg hV] at hw
            cases hw
    · cases h
  · cases h
theorem kpRun_ok {R V : Nat} : ∀ {ls : List (List UInt8)} {a b : KA}, KAok R V a → kpRun R V a ls = some b → KAok R V b
  | [], a, b, ha, h => by obtain rfl := Option.some.inj h; exact ha
  | x :: ls, a, b, ha, h => by
    rw [kpRun] at h
    cases hx : kpLine R V a x with
    | none => rw [hx] at h; cases h
    | some c =>
      rw [hx] at h
      exact kpRun_ok (kpLine_ok ha hx) h
theorem kaok_none (R V : Nat) : KAok R V KA.none := ⟨by simp [KA.none], by simp [KA.none], by simp [KA.none], fun z hz => (by cases hz), Int.le_refl _⟩
/-- Rooms, one by one. -/
theorem kp_rooms {R V : Nat} : ∀ (ls : List (List UInt8)) (a : KA), 1 ≤ a.i → a.i + ls.length ≤ R + 1 → kpRun R V a (ls.map (· ++ [10])) = (sroomsOf ls).map fun l => ⟨a.i + ls.length, a.t, a.rs ++ l, a.zs⟩
  | [], a, _, _ => by simp [kpRun, sroomsOf]
  | u :: ls, a, h1, h2 => by
    rw [List.length_cons] at h2
    rw [List.map_cons, kpRun, sroomsOf]
    have e : kpLine R V a (u ++ [10]) = (sroomOf u).map fun s => ⟨a.i + 1, a.t, a.rs ++ [s], a.zs⟩ := by
      unfold kpLine sroomOf
      rw [read7B_snoc]
      cases hw : wnL u with
      | none => rfl
      | some q =>
        obtain ⟨w, ns⟩ := q
        have hW : kpWord R V a.i = some snRoomW := by unfold kpWord; rw [if_neg (by omega), if_pos (by omega)]
        unfold kpTake
        simp only
        rw [hW]
        by_cases hws : w = snRoomW
        · subst hws
          rw [if_pos rfl, if_pos rfl, if_neg (by omega), if_pos (by omega)]
        · rw [if_neg (fun e => hws (Option.some.inj e).symm), if_neg hws]
          rfl
    rw [e]
    cases hs : sroomOf u with
    | none => rfl
    | some s =>
      have ih := kp_rooms (R := R) (V := V) ls ⟨a.i + 1, a.t, a.rs ++ [s], a.zs⟩ (by simp) (by simp; omega)
      simp only [Option.map_some]
      rw [ih]
      cases sroomsOf ls with
      | none => rfl
      | some l =>
        simp only [Option.map_some, List.length_cons, List.append_assoc, List.singleton_append]
        congr 2
        omega
/-- What wires hold, one by one. -/
def zOf (u : List UInt8) : Option (List Int × Int) := match wnL u with
  | some (w, n :: ns) => if w = snWireW then some (ns, n) else Option.none
  | _ => Option.none
def zsOf : List (List UInt8) → Option (List (List Int × Int))
  | [] => some []
  | u :: ls => match zOf u, zsOf ls with
    | some z, some l => some (z :: l)
    | _, _ => Option.none
theorem kp_wires {R V : Nat} : ∀ (ls : List (List UInt8)) (a : KA), R + 1 ≤ a.i → a.i + ls.length ≤ R + V + 1 → kpRun R V a (ls.map (· ++ [10])) = (zsOf ls).map fun l => ⟨a.i + ls.length, a.t, a.rs, a.zs ++ l⟩
  | [], a, _, _ => by simp [kpRun, zsOf]
  | u :: ls, a, h1, h2 => by
    rw [List.length_cons] at h2
    rw [List.map_cons, kpRun, zsOf]
    have e : kpLine R V a (u ++ [10]) = (zOf u).map fun z => ⟨a.i + 1, a.t, a.rs, a.zs ++ [z]⟩ := by
      unfold kpLine zOf
      rw [read7B_snoc]
      cases hw : wnL u with
      | none => rfl
      | some q =>
        obtain ⟨w, ns⟩ := q
        have hW : kpWord R V a.i = some snWireW := by unfold kpWord; rw [if_neg (by omega), if_neg (by omega), if_pos (by omega)]
        unfold kpTake
        simp only
        rw [hW]
        by_cases hws : w = snWireW
        · subst hws
          rw [if_pos rfl, if_neg (by omega), if_neg (by omega)]
          cases ns <;> simp
        · rw [if_neg (fun e => hws (Option.some.inj e).symm)]
          cases ns with
          | nil => rfl
          | cons n ns => simp only; rw [if_neg hws]; rfl
    rw [e]
    cases hs : zOf u with
    | none => rfl
    | some s =>
      have ih := kp_wires (R := R) (V := V) ls ⟨a.i + 1, a.t, a.rs, a.zs ++ [s]⟩ (by simp; omega) (by simp; omega)
      simp only [Option.map_some]
      rw [ih]
      cases zsOf ls with
      | none => rfl
      | some l =>
        simp only [Option.map_some, List.length_cons, List.append_assoc, List.singleton_append]
        congr 2
        omega
def lnsOf (ws : List W4) (zs : List (List Int × Int)) : List LnD := List.zipWith (fun x z => ⟨x, z.1, z.2⟩) ws zs
theorem swires_z : ∀ (ws : List W4) (ls : List (List UInt8)), ws.length = ls.length → swiresOf ws ls = (zsOf ls).map (lnsOf ws)
  | [], [], _ => rfl
  | [], _ :: _, h => by cases h
  | _ :: _, [], h => by cases h
  | x :: ws, u :: ls, h => by
    rw [swiresOf, zsOf, swires_z ws ls (by simpa using h)]
    have e : swireOf x u = (zOf u).map fun z => ⟨x, z.1, z.2⟩ := by
      unfold swireOf zOf
      cases hw : wnL u with
      | none => rfl
      | some q =>
        obtain ⟨w, ns⟩ := q
        cases ns with
        | nil => rfl
        | cons n ns =>
          simp only
          by_cases h : w = snWireW
          · rw [if_pos h, if_pos h]
            rfl
          · rw [if_neg h, if_neg h]
            rfl
    rw [e]
    cases zOf u <;> cases zsOf ls <;> rfl
theorem snP_byline (p : PD) (t : List UInt8) : snP p t = match kpRun p.code.length p.wires.length KA.none (linesB t) with
    | Option.none => (newK p, 2)
    | some a => if a.i = 1 + p.code.length + p.wires.length then snK p (some ⟨a.rs, lnsOf p.wires a.zs, a.t⟩) else (newK p, 2) := by
  obtain ⟨ps, q, h1, h2, h3⟩ := cut_lines t [] (by simp)
  have hl : linesB t = ps.map (· ++ [10]) ++ (if q = [] then [] else [q]) := h3
  have h1' : cutB 10 t = ps ++ [q] := h1
  by_cases hq : q = []
  · rw [if_pos hq, List.append_nil] at hl
    subst hq
    unfold snP
    rw [h1', hl, List.getLast?_concat, List.dropLast_concat, List.length_append, List.length_singleton]
    by_cases hn : ps.length = 1 + p.code.length + p.wires.length
    · rw [if_pos ⟨rfl, by omega⟩]
      cases ps with
      | nil => simp at hn; omega
      | cons u ls =>
        rw [List.length_cons] at hn
        have hsplit : ls.map (· ++ [10]) = (ls.take p.code.length).map (· ++ [10]) ++ (ls.drop p.code.length).map (· ++ [10]) := by rw [← List.map_append, List.take_append_drop]
        rw [List.map_cons, kpRun]
        have e : kpLine p.code.length p.wires.length KA.none (u ++ [10]) = (stimeOf u).map fun n => ⟨1, n, [], []⟩ := by
          unfold kpLine stimeOf
          rw [read7B_snoc]
          cases hw : wnL u with
          | none => rfl
          | some q =>
            obtain ⟨w, ns⟩ := q
            simp only [kpWord, kpTake, KA.none, if_pos]
            by_cases hws : w = snTimeW
            · subst hws
              rw [if_pos rfl]
              match ns with
              | [] => rfl
              | [n] => rfl
              | n :: m :: r => rfl
            · rw [if_neg (fun e => hws (Option.some.inj e).symm)]
              match ns with
              | [] => rfl
              | [n] => simp only; rw [if_neg hws]; rfl
              | n :: m :: r => rfl
        rw [e, snOf]
        cases ht : stimeOf u with
        | none => rfl
        | some n =>
          simp only [Option.map_some]
          rw [hsplit, kpRun_app, kp_rooms (ls.take p.code.length) ⟨1, n, [], []⟩ (Nat.le_refl _) (by simp only [List.length_take]; omega)]
          cases hr : sroomsOf (ls.take p.code.length) with
          | none => rfl
          | some rs =>
            have hlt : (ls.take p.code.length).length = p.code.length := by rw [List.length_take]; omega
            have hld : (ls.drop p.code.length).length = p.wires.length := by rw [List.length_drop]; omega
            simp only [Option.map_some, Option.bind_some]
            rw [kp_wires (ls.drop p.code.length) _ (by simp only [hlt]; omega) (by simp only [hlt, hld]; omega), swires_z p.wires _ hld.symm]
            cases hz : zsOf (ls.drop p.code.length) with
            | none => rfl
            | some zs =>
              simp only [Option.map_some, List.nil_append, hlt, hld]
              rw [if_pos trivial]
    · rw [if_neg (fun h => hn (by have := h.2; omega))]
      cases hk : kpRun p.code.length p.wires.length KA.none (ps.map (· ++ [10])) with
      | none => rfl
      | some a =>
        have := kpRun_i hk
        rw [List.length_map] at this
        simp only
        rw [if_neg (by rw [this]; simp only [KA.none]; omega)]
  · rw [if_neg hq] at hl
    have hbad : kpRun p.code.length p.wires.length KA.none (linesB t) = Option.none := by
      rw [hl, kpRun_app]
      cases hk : kpRun p.code.length p.wires.length KA.none (ps.map (· ++ [10])) with
      | none => rfl
      | some a =>
        show (match kpLine _ _ a q with | Option.none => Option.none | some b => some b) = _
        have : kpLine p.code.length p.wires.length a q = Option.none := by
          unfold kpLine
          rw [read7B_none (fun u e => h2 (by rw [e]; simp))]
        rw [this]
    rw [hbad]
    unfold snP
    rw [h1', List.getLast?_concat, if_neg (fun h => hq (Option.some.inj h.1))]
/-- What was read of all lines. -/
theorem kp_ok {p : PD} {a : KA} (h : KAok p.code.length p.wires.length a) (hi : a.i = 1 + p.code.length + p.wires.length) (hx : ∀ z ∈ a.zs, z.1.length ≤ 2000000000000) : KpOk p a.rs (lnsOf p.wires a.zs) := by
  have hz : a.zs.length = p.wires.length := by rw [h.zs]; omega
  refine ⟨by rw [h.rs]; omega, ?_, fun l hl => ?_⟩
  · apply List.ext_getElem?
    intro i
    unfold lnsOf
    rw [List.getElem?_map, List.getElem?_zipWith]
    cases hw : p.wires[i]? with
    | none => rfl
    | some x =>
      have hlt := (List.getElem?_eq_some_iff.1 hw).1
      rw [List.getElem?_eq_getElem (by omega : i < a.zs.length)]
      rfl
  · unfold lnsOf at hl
    obtain ⟨i, hi⟩ := List.mem_iff_getElem?.1 hl
    rw [List.getElem?_zipWith] at hi
    split at hi
    · rename_i x z hx2 hz2
      obtain rfl := Option.some.inj hi
      obtain ⟨q1, q2, q3⟩ := h.nn z (List.mem_of_getElem? hz2)
      exact ⟨q1, q2, q3, hx z (List.mem_of_getElem? hz2)⟩
    · cases hi
end Go.Proofs.YtajfgmlockjmhaiGreatDoor
