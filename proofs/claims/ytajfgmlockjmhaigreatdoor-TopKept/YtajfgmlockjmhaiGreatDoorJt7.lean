/-
  SnpL, SnpC, SavM, SnMix, SnText0, SnByL, Seqs, CutSfx, FourB, LinesL, Cut1, SplitS: joined into one text.
-/
import Derived.Test.YtajfgmlockjmhaiGreatDoorJt6
import Derived.Test.YtajfgmlockjmhaiGreatDoorJt3
import Derived.Test.YtajfgmlockjmhaiGreatDoorJt5
import Derived.Test.YtajfgmlockjmhaiGreatDoorJt2
import Derived.Test.YtajfgmlockjmhaiGreatDoorJt4
import Derived.Test.YtajfgmlockjmhaiGreatDoorJt1
import Derived.Shelf.Abstract
import Derived.Shelf.RegionOpen
import Derived.OwnWalkIn
import Derived.TacticsInMore
import Derived.LoopNIn
import Derived.LoopIn
namespace Go.Proofs.YtajfgmlockjmhaiGreatDoor

theorem numB7_le {l : List UInt8} {n : Int} (h : numB7 l = some n) : n ≤ 9999999 := by
  obtain ⟨h1, h2⟩ := numB7_form h
  have h0 := (numB7_some h).2.1
  have hd : ∀ d ∈ l, isD d := fun d hd => by
    rw [h2] at hd
    exact dec_mem _ d hd
  have hne : l ≠ [] := by rw [h2]; exact dec_ne _
  have hg := num7_good hd hne h1 (fun hh => by
    have hz := dec_head n.toNat (by rw [← h2]; exact hh)
    rw [h2, hz, Lib.decDigits_one (by omega)]
    rfl)
  rw [h] at hg
  obtain rfl := Option.some.inj hg
  exact (valD_le7 l hd h1).2
theorem nums7_le : ∀ {ps : List (List UInt8)} {ns : List Int}, nums7 ps = some ns → ∀ n ∈ ns, n ≤ 9999999
  | [], ns, h => by
    obtain rfl := Option.some.inj h
    exact fun n hn => (by cases hn)
  | u :: ps, ns, h => by
    unfold nums7 at h
    cases h1 : numB7 u with
    | none => rw [h1] at h; cases h
    | some n =>
      cases h2 : nums7 ps with
      | none => rw [h1, h2] at h; cases h
      | some l =>
        rw [h1, h2] at h
        obtain rfl := Option.some.inj h
        intro m hm
        rcases List.mem_cons.1 hm with rfl | hm
        · exact numB7_le h1
        · exact nums7_le h2 m hm
theorem wn_le {u w : List UInt8} {ns : List Int} (h : wnL u = some (w, ns)) : ∀ n ∈ ns, n ≤ 9999999 := by
  unfold wnL at h
  split at h
  · cases h
  · obtain ⟨ns', hn, e⟩ := Option.map_eq_some_iff.1 h
    injection e with e1 e2
    subst e2
    exact nums7_le hn
/-- A kernel that may be kept, and read again. -/
structure Kept (p : PD) (k : KD) : Prop where
  ok : KOk p k
  keep : Keep k
  tm : k.time ≤ 9999999
  ls : ∀ l ∈ k.lines, l.ls ≤ 9999999
theorem put_lost (l : LnD) (n : Int) : (putL l n).ls ≤ l.ls + 1 := by
  unfold putL
  split
  · show l.ls ≤ _; omega
  · split
    · show l.ls ≤ _; omega
    · exact Int.le_refl _
theorem getD_lost {ls : List LnD} {m : Int} (hm : 0 ≤ m) (h : ∀ l ∈ ls, l.ls ≤ m) (i : Nat) : (ls.getD i LnD.none).ls ≤ m := by
  cases hi : ls[i]? with
  | none =>
    rw [List.getD, hi]
    exact hm
  | some l =>
    rw [List.getD, hi]
    exact h l (List.mem_of_getElem? hi)
theorem lines_lost {k : KD} {m : Int} (hm : 0 ≤ m) (h : ∀ l ∈ k.lines, l.ls ≤ m) (o : O3) (s : St) (sent : Int) : ∀ l ∈ linesS (linesT k o s) o sent, l.ls ≤ m + 1 := by
  have h1 : ∀ l ∈ linesT k o s, l.ls ≤ m := by
    unfold linesT
    split
    · intro l hl
      rcases List.mem_or_eq_of_mem_set hl with hl | rfl
      · exact h l hl
      · rw [(rest_keep (lineAt k o)).2]
        exact getD_lost hm h _
    · exact h
  unfold linesS
  split
  · intro l hl
    rcases List.mem_or_eq_of_mem_set hl with hl | rfl
    · have := h1 l hl
      omega
    · have h2 := put_lost ((linesT k o s).getD o.2.2.toNat LnD.none) sent
      have h3 := getD_lost hm h1 o.2.2.toNat
      omega
  · intro l hl
    have := h1 l hl
    omega
theorem tick_lost {p : PD} {sp : List S3} {k : KD} {m : Int} (hm : 0 ≤ m) (h : ∀ l ∈ k.lines, l.ls ≤ m) : ∀ l ∈ (tickK p sp k).1.lines, l.ls ≤ m + 1 := by
  unfold tickK
  simp only
  split
  · intro l hl
    have := h l hl
    omega
  · unfold turnK
    simp only
    exact lines_lost hm h _ _ _
theorem kT_lost (p : PD) : ∀ n : Nat, ∀ l ∈ (kT p n).lines, l.ls ≤ n
  | 0 => fun l hl => by
    have hl' : l ∈ (newK p).lines := hl
    unfold newK at hl'
    obtain ⟨_, _, rfl⟩ := List.mem_map.1 hl'
    exact Int.le_refl _
  | n + 1 => fun l hl => by
    have := tick_lost (p := p) (sp := p.spans) (k := kT p n) (m := n) (by omega) (kT_lost p n) l hl
    push_cast
    exact this
/-- A kernel that came by ticks may be kept. -/
theorem kT_kept {p : PD} (hp : plchk p = 0) {n : Nat} (hn : n ≤ 1000) : Kept p (kT p n) := ⟨kT_ok hp n, kT_keep hp n, by rw [kT_time]; omega, fun l hl => by have := kT_lost p n l hl; omega⟩
/-- The fault of a text as a kernel of any plan. -/
def snE (p : PD) (t : List UInt8) : Int := if plchk p = 0 then (snP p t).2 else plchk p
theorem snE_ok {p : PD} {t : List UInt8} (hp : plchk p = 0) : snE p t = (snP p t).2 := by
  unfold snE
  rw [if_pos hp]
theorem snE_no {p : PD} {t : List UInt8} (hp : plchk p ≠ 0) : snE p t = plchk p := by
  unfold snE
  rw [if_neg hp]
theorem Kept.small {p : PD} {k : KD} (hp : plchk p = 0) (h : Kept p k) : SnSmall k := snap_small hp h.ok (by have := h.tm; omega) (fun l hl => by have := h.ls l hl; omega)
theorem Kept.read {p : PD} {k : KD} (hp : plchk p = 0) (h : Kept p k) : snP p (snB k) = (k, 0) := snap_read hp h.ok h.keep h.tm h.ls
end Go.Proofs.YtajfgmlockjmhaiGreatDoor
namespace Go.Proofs.YtajfgmlockjmhaiGreatDoor
open Go.RowKit

/-- A kernel is kept as its text. -/
def SnpSave {G : World → Prop} (C : KerC G) : Prop := ∀ {w0 W p vc vs vw k kb F} (uc us uw : Value), G w0 → C.K w0 W p vc vs vw k kb F → Pln W uc us uw p → plchk p = 0 → KOk p k → SnSmall k → Calls Tryz.prog 10 #[.pointer (some ⟨kb, 0, none⟩), plV uc p.ticks us uw] W fun e w' => e = .returned (.tuple #[.string ⟨(snB k).toArray⟩, .nilIface]) ∧ Below W.heap.size W w'
/-- A text is read as a kernel. -/
def SnpLoad {G : World → Prop} (C : KerC G) : Prop := ∀ (p : PD) (vc vs vw : Value) (t : ByteArray) (W : World), G W → Pln W vc vs vw p → t.size ≤ 1099511627776 → snE p t.data.toList = 0 → Calls Tryz.prog 11 #[plV vc p.ticks vs vw, .string t] W fun e w' => ∃ kb F, e = .returned (.tuple #[.pointer (some ⟨kb, 0, none⟩), .nilIface]) ∧ C.K W w' p vc vs vw (snP p t.data.toList).1 kb F
end Go.Proofs.YtajfgmlockjmhaiGreatDoor
namespace Go.Proofs.YtajfgmlockjmhaiGreatDoor

/-- The text so far. -/
def sxR (k : KD) (j : Nat) : List UInt8 := stimeL k.time ++ [10] ++ endL ((k.rooms.take j).map sroomL)
def sxW (k : KD) (j : Nat) : List UInt8 := sxR k k.rooms.length ++ endL ((k.lines.take j).map swireL)
theorem sx_take {α : Type} {l : List α} {j : Nat} {x : α} (h : l[j]? = some x) : l.take (j + 1) = l.take j ++ [x] := by
  obtain ⟨hk, rfl⟩ := List.getElem?_eq_some_iff.1 h
  rw [List.take_succ_eq_append_getElem hk]
theorem endL_snoc (ls : List (List UInt8)) (u : List UInt8) : endL (ls ++ [u]) = endL ls ++ (u ++ [10]) := by simp [endL]
theorem sxR_zero (k : KD) : sxR k 0 = stimeL k.time ++ [10] := by simp [sxR, endL]
theorem sxW_zero (k : KD) : sxW k 0 = sxR k k.rooms.length := by simp [sxW, endL]
theorem sxR_next {k : KD} {j : Nat} {s : St} (h : k.rooms[j]? = some s) : sxR k (j + 1) = sxR k j ++ (sroomL s ++ [10]) := by
  unfold sxR
  rw [sx_take h, List.map_append, List.map_cons, List.map_nil, endL_snoc]
  simp only [List.append_assoc]
theorem sxW_next {k : KD} {j : Nat} {l : LnD} (h : k.lines[j]? = some l) : sxW k (j + 1) = sxW k j ++ (swireL l ++ [10]) := by
  unfold sxW
  rw [sx_take h, List.map_append, List.map_cons, List.map_nil, endL_snoc, List.append_assoc]
theorem sxW_all (k : KD) : sxW k k.lines.length = snB k := by
  unfold sxW sxR snB snL
  rw [List.take_length, List.take_length]
  simp [endL]
theorem endL_bound {n : Nat} : ∀ (ls : List (List UInt8)), (∀ u ∈ ls, u.length ≤ n) → (endL ls).length ≤ (n + 1) * ls.length
  | [], _ => by simp [endL]
  | u :: ls, h => by
    have h1 := endL_bound ls (fun v hv => h v (by simp [hv]))
    have h2 := h u (by simp)
    have e : endL (u :: ls) = u ++ [10] ++ endL ls := by simp [endL]
    rw [e, List.length_append, List.length_append, List.length_cons, List.length_cons, List.length_nil, Nat.mul_succ]
    omega
theorem tail_big {zs : List Int} (h : ∀ z ∈ zs, 0 ≤ z ∧ z ≤ 100000000) : (tail zs).length ≤ 22 * zs.length := tail_le zs (fun z hz => by have := h z hz; omega)
theorem sx_len {k : KD} (hs : SnSmall k) : (∀ j, (sxR k j).length ≤ 2000) ∧ ∀ j, (sxW k j).length ≤ 6000 := by
  have t0 := tail_big (zs := [k.time]) (fun z hz => by rw [List.mem_singleton] at hz; subst hz; exact hs.tm)
  have a1 : ∀ j, (sxR k j).length ≤ 2000 := fun j => by
    have := endL_bound (n := 200) ((k.rooms.take j).map sroomL) (fun u hu => by
      obtain ⟨s, hsm, rfl⟩ := List.mem_map.1 hu
      have := tail_big (hs.rooms s (List.mem_of_mem_take hsm))
      simp only [sroomL, snRoomW, stN, List.length_append, List.length_cons, List.length_nil] at this ⊢
      omega)
    have hl : (k.rooms.take j).length ≤ 5 := by rw [List.length_take]; have := hs.rl; omega
    rw [List.length_map] at this
    simp only [sxR, stimeL, snTimeW, List.length_append, List.length_cons, List.length_nil] at t0 ⊢
    omega
  refine ⟨a1, fun j => ?_⟩
  have := endL_bound (n := 200) ((k.lines.take j).map swireL) (fun u hu => by
    obtain ⟨l, hlm, rfl⟩ := List.mem_map.1 hu
    have h1 := tail_big (hs.lines l (List.mem_of_mem_take hlm))
    have h2 := hs.deep l (List.mem_of_mem_take hlm)
    simp only [swireL, snWireW, List.length_append, List.length_cons, List.length_nil] at h1 ⊢
    omega)
  have hl : (k.lines.take j).length ≤ 12 := by rw [List.length_take]; have := hs.ll; omega
  rw [List.length_map] at this
  have := a1 k.rooms.length
  simp only [sxW, List.length_append]
  omega
theorem snB_len {k : KD} (hs : SnSmall k) : (snB k).length ≤ 6000 := by
  rw [← sxW_all]
  exact (sx_len hs).2 _
end Go.Proofs.YtajfgmlockjmhaiGreatDoor
namespace Go.Proofs.YtajfgmlockjmhaiGreatDoor

def mixA {α : Type} (l d : List α) (n : Nat) : List α := l.take n ++ d.drop n
theorem mixA_all {α : Type} {l d : List α} (h : l.length = d.length) : mixA l d l.length = l := by
  unfold mixA
  rw [List.take_length, h, List.drop_length, List.append_nil]
theorem mixA_len {α : Type} {l d : List α} (h : l.length = d.length) (n : Nat) : (mixA l d n).length = d.length := by
  unfold mixA
  rw [List.length_append, List.length_take, List.length_drop]
  omega
theorem mixA_set {α : Type} {l d : List α} {n : Nat} {x : α} (h : l.length = d.length) (hx : l[n]? = some x) : (mixA l d n).set n x = mixA l d (n + 1) := by
  have hn := (List.getElem?_eq_some_iff.1 hx).1
  have hnd : n < d.length := by omega
  have e : (l.take n).length = n := by rw [List.length_take]; omega
  unfold mixA
  rw [List.drop_eq_getElem_cons hnd, List.set_append_right _ _ (by omega), e, Nat.sub_self, List.set_cons_zero, List.take_succ_eq_append_getElem hn, (List.getElem?_eq_some_iff.1 hx).2, List.append_assoc]
  rfl
theorem mixA_at {α : Type} {l d : List α} (h : l.length = d.length) {n i : Nat} {x : α} (hx : (mixA l d n)[i]? = some x) : (i < n ∧ l[i]? = some x) ∨ (n ≤ i ∧ d[i]? = some x) := by
  unfold mixA at hx
  by_cases hi : i < n ∧ i < l.length
  · rw [List.getElem?_append_left (by rw [List.length_take]; omega), List.getElem?_take_of_lt hi.1] at hx
    exact Or.inl ⟨hi.1, hx⟩
  · have hid : i < d.length := by
      have := (List.getElem?_eq_some_iff.1 hx).1
      rw [List.length_append, List.length_take, List.length_drop] at this
      omega
    rw [List.getElem?_append_right (by rw [List.length_take]; omega), List.getElem?_drop, List.length_take] at hx
    refine Or.inr ⟨by omega, ?_⟩
    rw [show n + (i - min n l.length) = i by omega] at hx
    exact hx
theorem mixA_new {α : Type} {l d : List α} (h : l.length = d.length) {n : Nat} (hn : n < d.length) : (mixA l d n)[n]? = d[n]? := by
  unfold mixA
  rw [List.getElem?_append_right (by rw [List.length_take]; omega), List.getElem?_drop, List.length_take, show n + (n - min n l.length) = n by omega]
/-- So many rooms, and so many wires, are laid. -/
def mixK (p : PD) (rs : List St) (ls : List LnD) (n m : Nat) : KD := ⟨mixA rs (newK p).rooms n, mixA ls (newK p).lines m, 0⟩
/-- So far nothing was wrong. -/
def okR (p : PD) (rs : List St) (n : Nat) : Prop := ∀ (j : Nat) c s, j < n → p.code[j]? = some c → rs[j]? = some s → stOk s c.length = true
def okW (ls : List LnD) (m : Nat) : Prop := ∀ (j : Nat) l, j < m → ls[j]? = some l → lineBad l = false
theorem okR_next {p : PD} {rs : List St} {n : Nat} {c : List O3} {s : St} (h : okR p rs n) (hc : p.code[n]? = some c) (hs : rs[n]? = some s) (ho : stOk s c.length = true) : okR p rs (n + 1) := fun j c' s' hj hc' hs' => by
  by_cases hjn : j < n
  · exact h j c' s' hjn hc' hs'
  · obtain rfl : j = n := by omega
    rw [hc] at hc'
    rw [hs] at hs'
    obtain rfl := Option.some.inj hc'
    obtain rfl := Option.some.inj hs'
    exact ho
theorem okW_next {ls : List LnD} {m : Nat} {l : LnD} (h : okW ls m) (hl : ls[m]? = some l) (ho : lineBad l = false) : okW ls (m + 1) := fun j l' hj hl' => by
  by_cases hjn : j < m
  · exact h j l' hjn hl'
  · obtain rfl : j = m := by omega
    rw [hl] at hl'
    obtain rfl := Option.some.inj hl'
    exact ho
theorem snBad_room {p : PD} {rs : List St} {ls : List LnD} {t : Int} {n : Nat} {c : List O3} {s : St} (hc : p.code[n]? = some c) (hs : rs[n]? = some s) (ho : stOk s c.length = false) : snBad p ⟨rs, ls, t⟩ = true := by
  unfold snBad
  rw [Bool.or_eq_true]
  left
  cases hb : roomsBad p.code rs with
  | true => rfl
  | false =>
    have := roomsBad_all hb n c s hc hs
    rw [ho] at this
    cases this
theorem snBad_wire {p : PD} {rs : List St} {ls : List LnD} {t : Int} {m : Nat} {l : LnD} (hl : ls[m]? = some l) (ho : lineBad l = true) : snBad p ⟨rs, ls, t⟩ = true := by
  unfold snBad
  rw [Bool.or_eq_true]
  right
  rw [List.any_eq_true]
  exact ⟨l, List.mem_of_getElem? hl, ho⟩
theorem snBad_no {p : PD} {rs : List St} {ls : List LnD} {t : Int} (hr : okR p rs rs.length) (hw : okW ls ls.length) : snBad p ⟨rs, ls, t⟩ = false := by
  unfold snBad
  rw [Bool.or_eq_false_iff]
  refine ⟨roomsBad_none (fun i c s hc hs => hr i c s (List.getElem?_eq_some_iff.1 hs).1 hc hs), ?_⟩
  rw [List.any_eq_false]
  intro l hl
  obtain ⟨j, hj⟩ := List.mem_iff_getElem?.1 hl
  rw [hw j l (List.getElem?_eq_some_iff.1 hj).1 hj]
  decide
/-- What was kept of a plan's kernel: numbers from 0 on, of at most seven digits. -/
structure KpOk (p : PD) (rs : List St) (ls : List LnD) : Prop where
  rl : rs.length = p.code.length
  lw : ls.map (·.w) = p.wires
  ln : ∀ l ∈ ls, 0 ≤ l.ls ∧ l.ls ≤ 9999999 ∧ (∀ n ∈ l.xs, 0 ≤ n) ∧ l.xs.length ≤ 2000000000000
theorem KpOk.ll {p : PD} {rs : List St} {ls : List LnD} (h : KpOk p rs ls) : ls.length = p.wires.length := by rw [← h.lw, List.length_map]
theorem KpOk.r {p : PD} {rs : List St} {ls : List LnD} (h : KpOk p rs ls) : rs.length = (newK p).rooms.length := by rw [h.rl]; simp [newK]
theorem KpOk.l {p : PD} {rs : List St} {ls : List LnD} (h : KpOk p rs ls) : ls.length = (newK p).lines.length := by rw [h.ll]; simp [newK]
theorem KpOk.wat {p : PD} {rs : List St} {ls : List LnD} (h : KpOk p rs ls) {i : Nat} {l : LnD} (hl : ls[i]? = some l) : p.wires[i]? = some l.w := by rw [← h.lw, List.getElem?_map, hl]; rfl
theorem KpOk.new {p : PD} {rs : List St} {ls : List LnD} (h : KpOk p rs ls) {i : Nat} {l : LnD} (hl : ls[i]? = some l) : (mixA ls (newK p).lines i)[i]? = some ⟨l.w, [], 0⟩ := by
  have hi := (List.getElem?_eq_some_iff.1 hl).1
  rw [mixA_new h.l (by rw [← h.l]; exact hi)]
  unfold newK
  simp only
  rw [List.getElem?_map, h.wat hl]
  rfl
theorem line_good {l : LnD} (hw : wchk l.w.1 l.w.2.1 l.w.2.2.1 l.w.2.2.2 = 0) (h : lineBad l = false) (hx : ∀ n ∈ l.xs, 0 ≤ n) (hs : 0 ≤ l.ls) : LnOk l l.w ∧ (l.xs.length : Int) ≤ l.w.2.2.2 := by
  unfold lineBad at h
  rw [Bool.or_eq_false_iff, Bool.or_eq_false_iff] at h
  obtain ⟨⟨h1, h2⟩, h3⟩ := h
  rw [decide_eq_false_iff_not] at h1
  rw [List.any_eq_false] at h3
  refine ⟨⟨rfl, fun n hn => ⟨hx n hn, ?_⟩, fun hk => ?_, fun hk => by omega, hs⟩, by omega⟩
  · have := h3 n hn
    simp at this
    omega
  · rcases wchk_kind hw with ⟨_, h5⟩ | ⟨h5, _⟩
    · omega
    · omega
theorem mixK_ok {p : PD} (hp : plchk p = 0) {rs : List St} {ls : List LnD} (h : KpOk p rs ls) {n m : Nat} (hr : okR p rs n) (hw : okW ls m) : KOk p (mixK p rs ls n m) := by
  have h0 := new_ok hp
  refine ⟨by unfold mixK; simp only; rw [mixA_len h.r]; exact h0.rl, by unfold mixK; simp only; rw [mixA_len h.l]; exact h0.ll, fun i c s hc hs => ?_, fun i l x hl hx => ?_, fun l hl => ?_, Int.le_refl _⟩
  · rcases mixA_at h.r hs with ⟨h1, h2⟩ | ⟨h1, h2⟩
    · exact hr i c s h1 hc h2
    · exact h0.rooms i c s hc h2
  · rcases mixA_at h.l hl with ⟨h1, h2⟩ | ⟨h1, h2⟩
    · have hx2 := h.wat h2
      rw [hx] at hx2
      obtain rfl := Option.some.inj hx2
      have hz := (wschk_ok (plchk_zero hp).2.2.2.1).2 _ (List.mem_of_getElem? hx)
      obtain ⟨q1, _, q3, _⟩ := h.ln l (List.mem_of_getElem? h2)
      exact (line_good hz (hw i l h1 h2) q3 q1).1
    · exact h0.lines i l x h2 hx
  · obtain ⟨i, hi⟩ := List.mem_iff_getElem?.1 hl
    show l.ls ≤ 0 + 10000000
    rcases mixA_at h.l hi with ⟨h1, h2⟩ | ⟨h1, h2⟩
    · have := (h.ln l (List.mem_of_getElem? h2)).2.1
      omega
    · have := h0.lost l (List.mem_of_getElem? h2)
      simp only [newK] at this
      omega
end Go.Proofs.YtajfgmlockjmhaiGreatDoor
namespace Go.Proofs.YtajfgmlockjmhaiGreatDoor
open Go.RowKit

set_option maxRecDepth 100000 in
set_option maxHeartbeats 1000000 in
theorem flag_any (b : Bool) (w : World) : Calls Tryz.prog 70 #[.bool b] w fun e w' => e = .returned (.int .i64 (if b = true then 1 else 0)) ∧ w' = w := by
  cases b
  · go_enter Tryz.func70, Tryz.ntmps70
    go_wp2
    go_ret
    exact ⟨rfl, rfl⟩
  · go_enter Tryz.func70, Tryz.ntmps70
    go_wp2
    go_ret
    exact ⟨rfl, rfl⟩
theorem ints_one (xs : List Int) : ∀ u ∈ ints xs, u.oneCell' = true := by
  intro u hu
  obtain ⟨x, _, rfl⟩ := List.mem_map.1 hu
  rfl
/-- A line of a word and numbers that lie in a row. -/
theorem line_row {base : Nat} (word : List UInt8) (v : Value) (zs : List Int) (W : World) (hp : Pow10 W) (hv : W.ownsRow base 3 1 v zs.length (ints zs)) (hne : zs ≠ []) (hz : ∀ z ∈ zs, 0 ≤ z ∧ z ≤ 100000000) (hw : word.length ≤ 10) (hl : zs.length ≤ 10) :
    Calls Tryz.prog 68 #[.string ⟨word.toArray⟩, v] W fun e w' => e = .returned (.string ⟨((word ++ tail zs) ++ [10]).toArray⟩) ∧ Below W.heap.size W w' := by
  have hi : Ints W v zs := by
    rcases row_form hv with ⟨rfl, h0⟩ | ⟨g, cap, rfl⟩
    · exact absurd (List.eq_nil_of_length_eq_zero h0) hne
    · obtain ⟨_, h2, h3, h4, h5, _, _⟩ := own_cap hv
      exact Or.inr ⟨⟨g, 0, none⟩, cap, rfl, h2, fun i x hx => by rw [Addr.add_lit, Nat.zero_add]; exact h5 i _ (ints_at hx)⟩
  have q := line_any ⟨word.toArray⟩ v zs W hp hi (fun z h => by have := hz z h; omega) (by rw [ba_size]; omega)
  simpa [lineB] using q
theorem conc_room (s : St) (b g g1 g2 : Nat) (W : World) (hg : g < W.heap.size) (h1 : g1 < W.heap.size) (hb : b < W.heap.size) (h2 : g2 < W.heap.size)
    (c0 : W.cell? ⟨g, 0, none⟩ = some (.slice (some ⟨g1, 0, none⟩) 1 1)) (c1 : W.cell? ⟨g, 1, none⟩ = some (.slice (some ⟨b, 1, none⟩) 6 6)) (c2 : W.cell? ⟨g, 2, none⟩ = some (.slice (some ⟨g2, 0, none⟩) 1 1))
    (d0 : W.cell? ⟨g1, 0, none⟩ = some (.int .i64 s.p)) (d1 : ∀ i, i < 6 → W.cell? ⟨b, 1 + i, none⟩ = some (.int .i64 (s.c i))) (d2 : W.cell? ⟨g2, 0, none⟩ = some (.int .i64 (if s.f = true then 1 else 0))) :
    Calls Tryz.prog 69 #[.slice (some ⟨g, 0, none⟩) 3 3] W fun e w' => ∃ ao c, e = .returned (.slice ao 8 c) ∧ w'.ownsRow W.heap.size 3 1 (.slice ao 8 c) (stN s).length (ints (stN s)) ∧ Below W.heap.size W w' := by
  have hfl : [ints [s.p], ints [s.c 0, s.c 1, s.c 2, s.c 3, s.c 4, s.c 5], ints [if s.f = true then 1 else 0]].flatten = ints (stN s) := by simp [ints, stN]
  have hln : (ints (stN s)).length = 8 := by simp [ints, stN]
  have q := concatI [.slice (some ⟨g1, 0, none⟩) 1 1, .slice (some ⟨b, 1, none⟩) 6 6, .slice (some ⟨g2, 0, none⟩) 1 1] [ints [s.p], ints [s.c 0, s.c 1, s.c 2, s.c 3, s.c 4, s.c 5], ints [if s.f = true then 1 else 0]] g 3 W rfl (Nat.le_refl _) (by rw [hfl, hln]; omega) (by rw [hfl, hln]; omega) hg
    (fun i v hv => by
      match i, hv with
      | 0, hv => simp at hv; subst hv; exact c0
      | 1, hv => simp at hv; subst hv; exact c1
      | 2, hv => simp at hv; subst hv; exact c2
      | i + 3, hv => simp at hv)
    (fun i v l hv hl => by
      match i, hv, hl with
      | 0, hv, hl =>
        simp at hv hl
        subst hv
        subst hl
        refine Or.inr ⟨g1, 0, 1, rfl, h1, fun j x hx => ?_⟩
        match j, hx with
        | 0, hx => simp [ints] at hx; subst hx; exact d0
        | j + 1, hx => simp [ints] at hx
      | 1, hv, hl =>
        simp at hv hl
        subst hv
        subst hl
        refine Or.inr ⟨b, 1, 6, rfl, hb, fun j x hx => ?_⟩
        match j, hx with
        | 0, hx => simp [ints] at hx; subst hx; exact d1 0 (by decide)
        | 1, hx => simp [ints] at hx; subst hx; exact d1 1 (by decide)
        | 2, hx => simp [ints] at hx; subst hx; exact d1 2 (by decide)
        | 3, hx => simp [ints] at hx; subst hx; exact d1 3 (by decide)
        | 4, hx => simp [ints] at hx; subst hx; exact d1 4 (by decide)
        | 5, hx => simp [ints] at hx; subst hx; exact d1 5 (by decide)
        | j + 6, hx => simp [ints] at hx
      | 2, hv, hl =>
        simp at hv hl
        subst hv
        subst hl
        refine Or.inr ⟨g2, 0, 1, rfl, h2, fun j x hx => ?_⟩
        match j, hx with
        | 0, hx => simp [ints] at hx; subst hx; exact d2
        | j + 1, hx => simp [ints] at hx
      | i + 3, hv, _ => simp at hv)
    (fun l hl y hy => by
      simp only [List.mem_cons, List.not_mem_nil, or_false] at hl
      rcases hl with rfl | rfl | rfl <;> exact ints_one _ y hy)
  rw [hfl, hln] at q
  exact q
theorem conc_wire (n : Int) (xs : List Int) (g g1 cap : Nat) (ao : Option Addr) (W : World) (hx : xs.length ≤ 6) (hg : g < W.heap.size) (h1 : g1 < W.heap.size) (c0 : W.cell? ⟨g, 0, none⟩ = some (.slice (some ⟨g1, 0, none⟩) 1 1)) (c1 : W.cell? ⟨g, 1, none⟩ = some (.slice ao xs.length cap))
    (d0 : W.cell? ⟨g1, 0, none⟩ = some (.int .i64 n)) (hr : Rd W (.slice ao xs.length cap) xs) :
    Calls Tryz.prog 69 #[.slice (some ⟨g, 0, none⟩) 2 2] W fun e w' => ∃ ao c, e = .returned (.slice ao (xs.length + 1) c) ∧ w'.ownsRow W.heap.size 3 1 (.slice ao (xs.length + 1) c) (n :: xs).length (ints (n :: xs)) ∧ Below W.heap.size W w' := by
  have hfl : [ints [n], ints xs].flatten = ints (n :: xs) := by simp [ints]
  have hln : (ints (n :: xs)).length = xs.length + 1 := by simp [ints]
  have q := concatI [.slice (some ⟨g1, 0, none⟩) 1 1, .slice ao xs.length cap] [ints [n], ints xs] g 2 W rfl (by simp) (by rw [hfl, hln]; omega) (by rw [hfl, hln]; omega) hg
    (fun i v hv => by
      match i, hv with
      | 0, hv => simp at hv; subst hv; exact c0
      | 1, hv => simp at hv; subst hv; exact c1
      | i + 2, hv => simp at hv)
    (fun i v l hv hl => by
      match i, hv, hl with
      | 0, hv, hl =>
        simp at hv hl
        subst hv
        subst hl
        refine Or.inr ⟨g1, 0, 1, rfl, h1, fun j x hx => ?_⟩
        match j, hx with
        | 0, hx => simp [ints] at hx; subst hx; exact d0
        | j + 1, hx => simp [ints] at hx
      | 1, hv, hl =>
        simp at hv hl
        subst hv
        subst hl
        rcases hr with ⟨hx, ao', cap', he⟩ | ⟨g', off, cap', he, _, _, h3, h4⟩
        · exact Or.inl ⟨by rw [hx]; rfl, ao, cap, by rw [hx]; rfl⟩
        · refine Or.inr ⟨g', off, cap', by rw [he, ints_len], h3, fun j x hx => ?_⟩
          unfold ints at hx
          rw [List.getElem?_map] at hx
          obtain ⟨y, hy, rfl⟩ := Option.map_eq_some_iff.1 hx
          exact h4 j y hy
      | i + 2, hv, _ => simp at hv)
    (fun l hl y hy => by
      simp only [List.mem_cons, List.not_mem_nil, or_false] at hl
      rcases hl with rfl | rfl <;> exact ints_one _ y hy)
  rw [hfl, hln] at q
  exact q
end Go.Proofs.YtajfgmlockjmhaiGreatDoor
namespace Go.Proofs.YtajfgmlockjmhaiGreatDoor

/-- What was kept so far: so many lines, the time, rooms, wires. -/
structure KA where
  i : Nat
  t : Int
  rs : List St
  zs : List (List Int × Int)
def KA.none : KA := ⟨0, 0, [], []⟩
/-- The word with which a line must begin. -/
def kpWord (R V i : Nat) : Option (List UInt8) := if i = 0 then some snTimeW else if i ≤ R then some snRoomW else if i ≤ R + V then some snWireW else none
/-- What a line of numbers says behind its word. -/
def kpTake (R : Nat) (a : KA) (ns : List Int) : Option KA :=
  if a.i = 0 then (match ns with
    | [n] => some ⟨1, n, a.rs, a.zs⟩
    | _ => Option.none)
  else if a.i ≤ R then (stOf ns).map fun s => ⟨a.i + 1, a.t, a.rs ++ [s], a.zs⟩
  else (match ns with
    | n :: xs => some ⟨a.i + 1, a.t, a.rs, a.zs ++ [(xs, n)]⟩
    | [] => Option.none)
def kpLine (R V : Nat) (a : KA) (l : List UInt8) : Option KA := match read7B l with
  | some (w, ns) => if kpWord R V a.i = some w then kpTake R a ns else Option.none
  | Option.none => Option.none
def kpRun (R V : Nat) : KA → List (List UInt8) → Option KA
  | a, [] => some a
  | a, l :: ls => match kpLine R V a l with
    | Option.none => Option.none
    | some b => kpRun R V b ls
theorem kpRun_snoc {R V : Nat} : ∀ {ls : List (List UInt8)} {a b : KA} {l : List UInt8}, kpRun R V a ls = some b → kpRun R V a (ls ++ [l]) = kpLine R V b l
  | [], a, b, l, h => by
    obtain rfl := Option.some.inj h
    show (match kpLine R V a l with | Option.none => Option.none | some b => some b) = _
    cases kpLine R V a l <;> rfl
  | x :: ls, a, b, l, h => by
    rw [List.cons_append, kpRun]
    rw [kpRun] at h
    cases hx : kpLine R V a x with
    | none => rw [hx] at h; cases h
    | some c =>
      rw [hx] at h
      exact kpRun_snoc h
theorem kpRun_app {R V : Nat} : ∀ {l1 l2 : List (List UInt8)} {a : KA}, kpRun R V a (l1 ++ l2) = (kpRun R V a l1).bind fun b => kpRun R V b l2
  | [], l2, a => rfl
  | x :: l1, l2, a => by
    rw [List.cons_append, kpRun, kpRun]
    cases hx : kpLine R V a x with
    | none => rfl
    | some c => exact kpRun_app
theorem kpLine_i {R V : Nat} {a b : KA} {l : List UInt8} (h : kpLine R V a l = some b) : b.i = a.i + 1 := by
  unfold kpLine at h
  split at h
  · split at h
    · unfold kpTake at h
      split at h
      · rename_i h0
        split at h
        · obtain rfl := Option.some.inj h
          simp [h0]
        · cases h
      · split at h
        · obtain ⟨s, _, rfl⟩ := Option.map_eq_some_iff.1 h
          rfl
        · split at h
          · obtain rfl := Option.some.inj h
            rfl
          · cases h
    · cases h
  · cases h
theorem kpRun_i {R V : Nat} : ∀ {ls : List (List UInt8)} {a b : KA}, kpRun R V a ls = some b → b.i = a.i + ls.length
  | [], a, b, h => by obtain rfl := Option.some.inj h; rfl
  | x :: ls, a, b, h => by
    rw [kpRun] at h
    cases hx : kpLine R V a x with
    | none => rw [hx] at h; cases h
    | some c =>
      rw [hx] at h
      have h1 := kpRun_i h
      have h2 := kpLine_i hx
      rw [List.length_cons]
      omega
/-- So many rooms, so many wires. -/
structure KAok (R V : Nat) (a : KA) : Prop where
  rs : a.rs.length = min (a.i - 1) R
  zs : a.zs.length = a.i - 1 - R
  le : a.i ≤ 1 + R + V
  nn : ∀ z ∈ a.zs, 0 ≤ z.2 ∧ z.2 ≤ 9999999 ∧ ∀ n ∈ z.1, 0 ≤ n
  tm : 0 ≤ a.t
theorem wn_none {w : List UInt8} {ns : List Int} {l : List UInt8} (h : read7B l = some (w, ns)) : ∀ n ∈ ns, 0 ≤ n ∧ n ≤ 9999999 := by
  unfold read7B at h
  split at h
  · exact fun n hn => ⟨(wn_back h).2 n hn, wn_le h n hn⟩
  · cases h
theorem kpLine_ok {R V : Nat} {a b : KA} {l : List UInt8} (ha : KAok R V a) (h : kpLine R V a l = some b) : KAok R V b := by
  obtain ⟨a1, a2, a3, a4, a5⟩ := ha
  unfold kpLine at h
  split at h
  · rename_i w ns hr
    have hn := wn_none hr
    split at h
    · rename_i hw
      unfold kpWord at hw
      unfold kpTake at h
      by_cases h0 : a.i = 0
      · rw [if_pos h0] at h
        split at h
        · obtain rfl := Option.some.inj h
          refine ⟨?_, ?_, by simp; omega, a4, ?_⟩
          · show a.rs.length = _
            rw [a1, h0]
            simp
          · show a.zs.length = _
            rw [a2, h0]
            simp
          · exact (hn _ (by simp)).1
        · cases h
      · rw [if_neg h0] at h hw
        by_cases hR : a.i ≤ R
        · rw [if_pos hR] at h
          obtain ⟨s, _, rfl⟩ := Option.map_eq_some_iff.1 h
          refine ⟨?_, ?_, by show a.i + 1 ≤ _; omega, a4, a5⟩
          · show (a.rs ++ [s]).length = min (a.i + 1 - 1) R
            rw [List.length_append, a1, List.length_singleton]
            omega
          · show a.zs.length = a.i + 1 - 1 - R
            rw [a2]
            omega
        · rw [if_neg hR] at h hw
          by_cases hV : a.i ≤ R + V
          · split at h
            · rename_i n xs
              obtain rfl := Option.some.inj h
              refine ⟨?_, ?_, by show a.i + 1 ≤ _; omega, fun z hz => ?_, a5⟩
              · show a.rs.length = min (a.i + 1 - 1) R
                rw [a1]
                omega
              · show (a.zs ++ [(xs, n)]).length = a.i + 1 - 1 - R
                rw [List.length_append, a2, List.length_singleton]
                omega
              · rcases List.mem_append.1 hz with hz | hz
                · exact a4 z hz
                · rw [List.mem_singleton] at hz
                  subst hz
                  exact ⟨(hn n (by simp)).1, (hn n (by simp)).2, fun m hm => (hn m (by simp [hm])).1⟩
            · cases h
          · rw [if_neg hV] at hw
            cases hw
    · cases h
  · cases h
theorem kpRun_ok {R V : Nat} : ∀ {ls : List (List UInt8)} {a b : KA}, KAok R V a → kpRun R V a ls = some b → KAok R V b
  | [], a, b, ha, h => by obtain rfl := Option.some.inj h; exact ha
  | x :: ls, a, b, ha, h => by
    rw [kpRun] at h
    cases hx : kpLine R V a x with
    | none => rw [hx] at h; cases h
    | some c =>
      rw [hx] at h
      exact kpRun_ok (kpLine_ok ha hx) h
theorem kaok_none (R V : Nat) : KAok R V KA.none := ⟨by simp [KA.none], by simp [KA.none], by simp [KA.none], fun z hz => (by cases hz), Int.le_refl _⟩
/-- Rooms, one by one. -/
theorem kp_rooms {R V : Nat} : ∀ (ls : List (List UInt8)) (a : KA), 1 ≤ a.i → a.i + ls.length ≤ R + 1 → kpRun R V a (ls.map (· ++ [10])) = (sroomsOf ls).map fun l => ⟨a.i + ls.length, a.t, a.rs ++ l, a.zs⟩
  | [], a, _, _ => by simp [kpRun, sroomsOf]
  | u :: ls, a, h1, h2 => by
    rw [List.length_cons] at h2
    rw [List.map_cons, kpRun, sroomsOf]
    have e : kpLine R V a (u ++ [10]) = (sroomOf u).map fun s => ⟨a.i + 1, a.t, a.rs ++ [s], a.zs⟩ := by
      unfold kpLine sroomOf
      rw [read7B_snoc]
      cases hw : wnL u with
      | none => rfl
      | some q =>
        obtain ⟨w, ns⟩ := q
        have hW : kpWord R V a.i = some snRoomW := by unfold kpWord; rw [if_neg (by omega), if_pos (by omega)]
        unfold kpTake
        simp only
        rw [hW]
        by_cases hws : w = snRoomW
        · subst hws
          rw [if_pos rfl, if_pos rfl, if_neg (by omega), if_pos (by omega)]
        · rw [if_neg (fun e => hws (Option.some.inj e).symm), if_neg hws]
          rfl
    rw [e]
    cases hs : sroomOf u with
    | none => rfl
    | some s =>
      have ih := kp_rooms (R := R) (V := V) ls ⟨a.i + 1, a.t, a.rs ++ [s], a.zs⟩ (by simp) (by simp; omega)
      simp only [Option.map_some]
      rw [ih]
      cases sroomsOf ls with
      | none => rfl
      | some l =>
        simp only [Option.map_some, List.length_cons, List.append_assoc, List.singleton_append]
        congr 2
        omega
/-- What wires hold, one by one. -/
def zOf (u : List UInt8) : Option (List Int × Int) := match wnL u with
  | some (w, n :: ns) => if w = snWireW then some (ns, n) else Option.none
  | _ => Option.none
def zsOf : List (List UInt8) → Option (List (List Int × Int))
  | [] => some []
  | u :: ls => match zOf u, zsOf ls with
    | some z, some l => some (z :: l)
    | _, _ => Option.none
theorem kp_wires {R V : Nat} : ∀ (ls : List (List UInt8)) (a : KA), R + 1 ≤ a.i → a.i + ls.length ≤ R + V + 1 → kpRun R V a (ls.map (· ++ [10])) = (zsOf ls).map fun l => ⟨a.i + ls.length, a.t, a.rs, a.zs ++ l⟩
  | [], a, _, _ => by simp [kpRun, zsOf]
  | u :: ls, a, h1, h2 => by
    rw [List.length_cons] at h2
    rw [List.map_cons, kpRun, zsOf]
    have e : kpLine R V a (u ++ [10]) = (zOf u).map fun z => ⟨a.i + 1, a.t, a.rs, a.zs ++ [z]⟩ := by
      unfold kpLine zOf
      rw [read7B_snoc]
      cases hw : wnL u with
      | none => rfl
      | some q =>
        obtain ⟨w, ns⟩ := q
        have hW : kpWord R V a.i = some snWireW := by unfold kpWord; rw [if_neg (by omega), if_neg (by omega), if_pos (by omega)]
        unfold kpTake
        simp only
        rw [hW]
        by_cases hws : w = snWireW
        · subst hws
          rw [if_pos rfl, if_neg (by omega), if_neg (by omega)]
          cases ns <;> simp
        · rw [if_neg (fun e => hws (Option.some.inj e).symm)]
          cases ns with
          | nil => rfl
          | cons n ns => simp only; rw [if_neg hws]; rfl
    rw [e]
    cases hs : zOf u with
    | none => rfl
    | some s =>
      have ih := kp_wires (R := R) (V := V) ls ⟨a.i + 1, a.t, a.rs, a.zs ++ [s]⟩ (by simp; omega) (by simp; omega)
      simp only [Option.map_some]
      rw [ih]
      cases zsOf ls with
      | none => rfl
      | some l =>
        simp only [Option.map_some, List.length_cons, List.append_assoc, List.singleton_append]
        congr 2
        omega
def lnsOf (ws : List W4) (zs : List (List Int × Int)) : List LnD := List.zipWith (fun x z => ⟨x, z.1, z.2⟩) ws zs
theorem swires_z : ∀ (ws : List W4) (ls : List (List UInt8)), ws.length = ls.length → swiresOf ws ls = (zsOf ls).map (lnsOf ws)
  | [], [], _ => rfl
  | [], _ :: _, h => by cases h
  | _ :: _, [], h => by cases h
  | x :: ws, u :: ls, h => by
    rw [swiresOf, zsOf, swires_z ws ls (by simpa using h)]
    have e : swireOf x u = (zOf u).map fun z => ⟨x, z.1, z.2⟩ := by
      unfold swireOf zOf
      cases hw : wnL u with
      | none => rfl
      | some q =>
        obtain ⟨w, ns⟩ := q
        cases ns with
        | nil => rfl
        | cons n ns =>
          simp only
          by_cases h : w = snWireW
          · rw [if_pos h, if_pos h]
            rfl
          · rw [if_neg h, if_neg h]
            rfl
    rw [e]
    cases zOf u <;> cases zsOf ls <;> rfl
theorem snP_byline (p : PD) (t : List UInt8) : snP p t = match kpRun p.code.length p.wires.length KA.none (linesB t) with
    | Option.none => (newK p, 2)
    | some a => if a.i = 1 + p.code.length + p.wires.length then snK p (some ⟨a.rs, lnsOf p.wires a.zs, a.t⟩) else (newK p, 2) := by
  obtain ⟨ps, q, h1, h2, h3⟩ := cut_lines t [] (by simp)
  have hl : linesB t = ps.map (· ++ [10]) ++ (if q = [] then [] else [q]) := h3
  have h1' : cutB 10 t = ps ++ [q] := h1
  by_cases hq : q = []
  · rw [if_pos hq, List.append_nil] at hl
    subst hq
    unfold snP
    rw [h1', hl, List.getLast?_concat, List.dropLast_concat, List.length_append, List.length_singleton]
    by_cases hn : ps.length = 1 + p.code.length + p.wires.length
    · rw [if_pos ⟨rfl, by omega⟩]
      cases ps with
      | nil => simp at hn; omega
      | cons u ls =>
        rw [List.length_cons] at hn
        have hsplit : ls.map (· ++ [10]) = (ls.take p.code.length).map (· ++ [10]) ++ (ls.drop p.code.length).map (· ++ [10]) := by rw [← List.map_append, List.take_append_drop]
        rw [List.map_cons, kpRun]
        have e : kpLine p.code.length p.wires.length KA.none (u ++ [10]) = (stimeOf u).map fun n => ⟨1, n, [], []⟩ := by
          unfold kpLine stimeOf
          rw [read7B_snoc]
          cases hw : wnL u with
          | none => rfl
          | some q =>
            obtain ⟨w, ns⟩ := q
            simp only [kpWord, kpTake, KA.none, if_pos]
            by_cases hws : w = snTimeW
            · subst hws
              rw [if_pos rfl]
              match ns with
              | [] => rfl
              | [n] => rfl
              | n :: m :: r => rfl
            · rw [if_neg (fun e => hws (Option.some.inj e).symm)]
              match ns with
              | [] => rfl
              | [n] => simp only; rw [if_neg hws]; rfl
              | n :: m :: r => rfl
        rw [e, snOf]
        cases ht : stimeOf u with
        | none => rfl
        | some n =>
          simp only [Option.map_some]
          rw [hsplit, kpRun_app, kp_rooms (ls.take p.code.length) ⟨1, n, [], []⟩ (Nat.le_refl _) (by simp only [List.length_take]; omega)]
          cases hr : sroomsOf (ls.take p.code.length) with
          | none => rfl
          | some rs =>
            have hlt : (ls.take p.code.length).length = p.code.length := by rw [List.length_take]; omega
            have hld : (ls.drop p.code.length).length = p.wires.length := by rw [List.length_drop]; omega
            simp only [Option.map_some, Option.bind_some]
            rw [kp_wires (ls.drop p.code.length) _ (by simp only [hlt]; omega) (by simp only [hlt, hld]; omega), swires_z p.wires _ hld.symm]
            cases hz : zsOf (ls.drop p.code.length) with
            | none => rfl
            | some zs =>
              simp only [Option.map_some, List.nil_append, hlt, hld]
              rw [if_pos trivial]
    · rw [if_neg (fun h => hn (by have := h.2; omega))]
      cases hk : kpRun p.code.length p.wires.length KA.none (ps.map (· ++ [10])) with
      | none => rfl
      | some a =>
        have := kpRun_i hk
        rw [List.length_map] at this
        simp only
        rw [if_neg (by rw [this]; simp only [KA.none]; omega)]
  · rw [if_neg hq] at hl
    have hbad : kpRun p.code.length p.wires.length KA.none (linesB t) = Option.none := by
      rw [hl, kpRun_app]
      cases hk : kpRun p.code.length p.wires.length KA.none (ps.map (· ++ [10])) with
      | none => rfl
      | some a =>
        show (match kpLine _ _ a q with | Option.none => Option.none | some b => some b) = _
        have : kpLine p.code.length p.wires.length a q = Option.none := by
          unfold kpLine
          rw [read7B_none (fun u e => h2 (by rw [e]; simp))]
        rw [this]
    rw [hbad]
    unfold snP
    rw [h1', List.getLast?_concat, if_neg (fun h => hq (Option.some.inj h.1))]
/-- What was read of all lines. -/
theorem kp_ok {p : PD} {a : KA} (h : KAok p.code.length p.wires.length a) (hi : a.i = 1 + p.code.length + p.wires.length) (hx : ∀ z ∈ a.zs, z.1.length ≤ 2000000000000) : KpOk p a.rs (lnsOf p.wires a.zs) := by
  have hz : a.zs.length = p.wires.length := by rw [h.zs]; omega
  refine ⟨by rw [h.rs]; omega, ?_, fun l hl => ?_⟩
  · apply List.ext_getElem?
    intro i
    unfold lnsOf
    rw [List.getElem?_map, List.getElem?_zipWith]
    cases hw : p.wires[i]? with
    | none => rfl
    | some x =>
      have hlt := (List.getElem?_eq_some_iff.1 hw).1
      rw [List.getElem?_eq_getElem (by omega : i < a.zs.length)]
      rfl
  · unfold lnsOf at hl
    obtain ⟨i, hi⟩ := List.mem_iff_getElem?.1 hl
    rw [List.getElem?_zipWith] at hi
    split at hi
    · rename_i x z hx2 hz2
      obtain rfl := Option.some.inj hi
      obtain ⟨q1, q2, q3⟩ := h.nn z (List.mem_of_getElem? hz2)
      exact ⟨q1, q2, q3, hx z (List.mem_of_getElem? hz2)⟩
    · cases hi
end Go.Proofs.YtajfgmlockjmhaiGreatDoor
namespace Go.Proofs.YtajfgmlockjmhaiGreatDoor
open Go.RowKit Go.Shelf
attribute [local go_sem] Oper.semAt_some

def encS (l : List UInt8) : Value := .string ⟨l.toArray⟩
/-- How long the text is that a box holds. -/
def boxLen (b : Nat) (w : World) : Nat := match w.cell? ⟨b, 0, none⟩ with | some (.string s) => s.size | _ => 0
theorem boxLen_of {b : Nat} {w : World} {l : List UInt8} {t : TypeId} (h : Boxed w b t (encS l)) : boxLen b w = l.length := by
  unfold boxLen; rw [h.cell]; simp [encS, ByteArray.size]

theorem Boxed.of_cell {W : World} {B : Nat} {t : TypeId} {v u : Value} (h : Boxed W B t v) (hc : W.cell? ⟨B, 0, none⟩ = some u) : Boxed W B t u := by
  rw [h.cell] at hc
  obtain rfl := Option.some.inj hc
  exact h
theorem take_mid (u v : List UInt8) (c : UInt8) : (u ++ c :: v).take (u.length + 1) = u ++ [c] := by
  rw [show u ++ c :: v = (u ++ [c]) ++ v by simp, List.take_append_of_le_length (by simp), List.take_of_length_le (by simp)]
theorem drop_mid (u v : List UInt8) (c : UInt8) : (u ++ c :: v).drop (u.length + 1) = v := by
  rw [show u ++ c :: v = (u ++ [c]) ++ v by simp, List.drop_append_of_le_length (by simp), List.drop_of_length_le (by simp), List.nil_append]
theorem ba_size' (l : List UInt8) : (ByteArray.mk l.toArray).size = l.length := by simp [ByteArray.size]

/-- Texts that are not too long. -/
abbrev ShortN (N : Nat) := { x : List UInt8 // x.length ≤ N }
set_option maxRecDepth 1000000 in
set_option maxHeartbeats 4000000 in
theorem lines_givesN (N : Nat) (hN : N ≤ 140737488355328) (text : List UInt8) (Bi : Nat) (w : World) (hB : Boxed w Bi 9 (encS text)) (hl : text.length ≤ N) :
    Gives Fence.wide 3 Tryz.prog 109 #[.pointer (some ⟨Bi, 0, none⟩)] (fun x : ShortN N => encS x.1) Bi 1 (fun xs => xs.map (·.1) = linesB text) (fun pre => pre.map (·.1) <+: linesB text) text.length w := by
  intro l J Jx W hbel hJ hJx hY h0
  have hBW : Boxed W Bi 9 (encS text) := (hbel.block Bi hB.lt).trans hB
  refine callsIn_of_wp Tryz.func109 rfl trivial ?_ rfl
  simp only [Tryz.ntmps109, List.size_toArray, List.length_cons, List.length_nil, Nat.reduceAdd, Nat.reduceSub, Array.replicate_succ, Array.replicate_zero, List.push_toArray, List.append_toArray, List.nil_append, List.cons_append]
  gi_wp2
  gi_loopw [] (fun wr => ∃ (pre : List (ShortN N)) (rest : List UInt8), Boxed wr Bi 9 (encS rest) ∧ pre.map (·.1) ++ linesB rest = linesB text ∧ pre.length + rest.length ≤ text.length ∧ J pre wr) (fun wr => boxLen Bi wr)
  case atStart => exact ⟨[], text, hBW, by simp, by simp, h0⟩
  case round =>
    obtain ⟨pre, rest, hbx, heq, hlen, hJr⟩ := hrel
    by_cases hne : rest = []
    · subst hne
      have hc : wr.cell? ⟨Bi, 0, none⟩ = some (.string ⟨#[]⟩) := hbx.cell
      have HQ : Hid (pre.map (·.1) = linesB text) := by show _ = _; rw [← heq, lines_nil, List.append_nil]
      clear heq
      gi_wp2
      go_end0
      exact ⟨⟨_, rfl⟩, Or.inl ⟨pre, HQ.out, hJr⟩⟩
    · have hpos : 0 < rest.length := List.length_pos_iff.2 hne
      have hfz := hbx.frozen
      obtain ⟨r, hr⟩ : ∃ r : ByteArray, r = ⟨rest.toArray⟩ := ⟨_, rfl⟩
      have hc : wr.cell? ⟨Bi, 0, none⟩ = some (.string r) := by rw [hr]; exact hbx.cell
      have hrs : r.size = rest.length := by rw [hr, ba_size']
      have hrd : r.data.toList = rest := by rw [hr]
      have hpos' : 0 < r.size := by omega
      have hix := Tryz.strings_IndexByte r 10 wr
      rw [hrd] at hix
      have hlt : pre.length < text.length := by omega
      rcases idx_cases 10 rest with ⟨hno, hi⟩ | ⟨u, v, hu, hnu, hi⟩
      · rw [show ((10 : Int).toNat.toUInt8) = 10 from rfl, hi] at hix
        have hJ' : J pre (wr.setCell ⟨Bi, 0, none⟩ (.string ⟨#[]⟩)) := hJ _ _ _ hJr (grownBy_setCell' _ _ _)
        obtain ⟨fn, tmps, assign, body, hy, hR⟩ := hY pre ⟨rest, by omega⟩ _ hJ' hlt
        simp only at hy
        rw [show encS rest = .string r by rw [hr]; rfl] at hy
        have HL : Hid (linesB text = pre.map (·.1) ++ [rest]) := by show _ = _; rw [← heq, lines_end hno hne]
        have HN : Hid (boxLen Bi wr = rest.length) := boxLen_of hbx
        have hbx2 := hbx.set (.string ⟨#[]⟩)
        clear heq hno hne hr hi
        gi_wp2_with (refine ⟨trivial, ?_⟩; gi_at_call 110; refine (callsIn_wide.2 hix).mono ?_; rintro e w' ⟨rfl, hw'⟩; subst hw')
        refine hR.mono ?_
        rintro e W3 (⟨rfl, hJ3, hk3⟩ | ⟨rfl, hJx3⟩)
        · have hbx3 : Boxed W3 Bi 9 (encS []) := (hk3 Bi (Nat.le_refl _) (by omega)).trans hbx2
          have HM : Hid (boxLen Bi W3 = 0) := boxLen_of hbx3
          clear hy hR
          gi_wp2
          go_roundw
          case rel => exact ⟨pre ++ [⟨rest, _⟩], [], hbx3, by rw [lines_nil, List.append_nil, HL.out]; simp, by simp; omega, hJ3⟩
          case measure => rw [HM.out, HN.out]; exact hpos
        · clear hy hR
          gi_wp2
          refine bodyPost_ret (results_none rfl _ _ _) rfl ?_
          exact ⟨⟨_, rfl⟩, Or.inr ⟨pre ++ [⟨rest, _⟩], by rw [HL.out]; simp, hJx3⟩⟩
      · rw [show ((10 : Int).toNat.toUInt8) = 10 from rfl, hi] at hix
        have hul : u.length + 1 + v.length = rest.length := by rw [hu]; simp; omega
        have hx1 : r.extract 0 (u.length + 1) = ⟨(u ++ [10]).toArray⟩ := by rw [ext_eq, hrd, hu, take_mid]; rfl
        have hx2 : r.extract (u.length + 1) rest.length = ⟨v.toArray⟩ := by rw [ext_eq, hrd, List.take_length, hu, drop_mid]
        have hbx2 : Boxed (wr.setCell ⟨Bi, 0, none⟩ (.string (r.extract (u.length + 1) rest.length))) Bi 9 (encS v) := by rw [hx2]; exact hbx.set _
        have hJ' : J pre (wr.setCell ⟨Bi, 0, none⟩ (.string (r.extract (u.length + 1) rest.length))).drew := hJ _ _ _ hJr ⟨rfl, rfl, rfl, by simp [World.setCell], (grownBy_setCell' wr Bi _).block⟩
        obtain ⟨fn, tmps, assign, body, hy, hR⟩ := hY pre ⟨u ++ [10], by simp; omega⟩ _ hJ' hlt
        simp only at hy
        rw [show encS (u ++ [10]) = .string (r.extract 0 (u.length + 1)) by rw [hx1]; rfl] at hy
        have HL : Hid (linesB text = pre.map (·.1) ++ (u ++ [10]) :: linesB v) := by show _ = _; rw [← heq, hu, lines_at v hnu]
        have HN : Hid (boxLen Bi wr = rest.length) := boxLen_of hbx
        have hub : (u.length : Int) < r.size := by omega
        have hub2 : u.length + 1 ≤ r.size := by omega
        clear heq hne hr hi hu hx1 hx2 hrd
        gi_wp2_with (refine ⟨trivial, ?_⟩; gi_at_call 110; refine (callsIn_wide.2 hix).mono ?_; rintro e w' ⟨rfl, hw'⟩; subst hw')
        gi_region
        gi_wp2
        refine hR.mono ?_
        rintro e W3 (⟨rfl, hJ3, hk3⟩ | ⟨rfl, hJx3⟩)
        · have hbx3 : Boxed W3 Bi 9 (encS v) := (hk3 Bi (Nat.le_refl _) (by omega)).trans hbx2
          have HM : Hid (boxLen Bi W3 = v.length) := boxLen_of hbx3
          clear hy hR
          gi_wp2
          go_roundw
          case rel => exact ⟨pre ++ [⟨u ++ [10], _⟩], v, hbx3, by rw [HL.out]; simp, by simp; omega, hJ3⟩
          case measure => rw [HM.out, HN.out]; omega
        · clear hy hR
          gi_wp2
          refine bodyPost_ret (results_none rfl _ _ _) rfl ?_
          exact ⟨⟨_, rfl⟩, Or.inr ⟨pre ++ [⟨u ++ [10], _⟩], by rw [HL.out]; exact ⟨linesB v, by simp⟩, hJx3⟩⟩
end Go.Proofs.YtajfgmlockjmhaiGreatDoor
namespace Go.Proofs.YtajfgmlockjmhaiGreatDoor
open Go.RowKit

theorem suffix_yes7 (s : ByteArray) (u : List UInt8) (w : World) (hs : s.data.toList = u ++ [10]) (hl : s.size ≤ 140737488355328) :
    Calls Tryz.prog 111 #[.string s, .string ⟨#[10]⟩] w fun e w' => e = .returned (.tuple #[.string ⟨u.toArray⟩, .bool true]) ∧ w' = w := by
  have h := Tryz.strings_CutSuffix s ⟨#[10]⟩ w (by omega)
  have e1 : Lib.hasSuffix s.data.toList [10] = true := by rw [hs]; simp [Lib.hasSuffix]
  have e2 : Lib.trimSuffix s.data.toList [10] = u := by rw [hs]; simp [Lib.trimSuffix, Lib.hasSuffix]
  simp only at h
  rw [show ([10] : List UInt8) = (#[10] : Array UInt8).toList from rfl] at e1 e2
  rw [e1, e2] at h
  exact h
theorem suffix_yes (s : ByteArray) (u : List UInt8) (w : World) (hs : s.data.toList = u ++ [10]) (hl : s.size ≤ 1099511627776) :
    Calls Tryz.prog 111 #[.string s, .string ⟨#[10]⟩] w fun e w' => e = .returned (.tuple #[.string ⟨u.toArray⟩, .bool true]) ∧ w' = w := suffix_yes7 s u w hs (by omega)
theorem suffix_no (s : ByteArray) (w : World) (hs : ∀ u, s.data.toList ≠ u ++ [10]) (hl : s.size ≤ 1099511627776) :
    Calls Tryz.prog 111 #[.string s, .string ⟨#[10]⟩] w fun e w' => (∃ t, e = .returned (.tuple #[.string t, .bool false])) ∧ w' = w := by
  refine (Tryz.strings_CutSuffix s ⟨#[10]⟩ w (by omega)).mono ?_
  rintro e w' ⟨rfl, rfl⟩
  have e1 : Lib.hasSuffix s.data.toList [10] = false := by
    rw [Bool.eq_false_iff]
    intro h
    have : [10] <:+ s.data.toList := by simpa [Lib.hasSuffix] using h
    obtain ⟨u, hu⟩ := this
    exact hs u hu.symm
  rw [show ([10] : List UInt8) = (#[10] : Array UInt8).toList from rfl] at e1
  exact ⟨⟨_, by rw [e1]⟩, rfl⟩
end Go.Proofs.YtajfgmlockjmhaiGreatDoor
namespace Go.Proofs.YtajfgmlockjmhaiGreatDoor
open Go.RowKit Go.Shelf

/-- The four boxes that words.Read lays at its head, in a later world. -/
theorem four_boxes {w w2 : World} {t0 t1 t2 t3 : TypeId} {v0 v1 v2 v3 : Value}
    (b2 : Below ((((w.alloc (.cells #[v0] t0)).alloc (.cells #[v1] t1)).alloc (.cells #[v2] t2)).alloc (.cells #[v3] t3)).heap.size ((((w.alloc (.cells #[v0] t0)).alloc (.cells #[v1] t1)).alloc (.cells #[v2] t2)).alloc (.cells #[v3] t3)) w2) :
    Boxed w2 w.heap.size t0 v0 ∧ Boxed w2 (w.heap.size + 1) t1 v1 ∧ Boxed w2 (w.heap.size + 1 + 1) t2 v2 ∧ Boxed w2 (w.heap.size + 1 + 1 + 1) t3 v3 ∧ Below w.heap.size w w2 ∧ w.heap.size + 4 ≤ w2.heap.size := by
  have h0 := Boxed.new w t0 v0
  have h1 := Boxed.new (w.alloc (.cells #[v0] t0)) t1 v1
  have h2 := Boxed.new ((w.alloc (.cells #[v0] t0)).alloc (.cells #[v1] t1)) t2 v2
  have h3 := Boxed.new (((w.alloc (.cells #[v0] t0)).alloc (.cells #[v1] t1)).alloc (.cells #[v2] t2)) t3 v3
  simp only [World.size_alloc] at h1 h2 h3
  have hs := b2.size
  simp only [World.size_alloc] at hs
  refine ⟨(b2.block _ (by simp; omega)).trans (((h0.alloc _).alloc _).alloc _), (b2.block _ (by simp)).trans ((h1.alloc _).alloc _), (b2.block _ (by simp)).trans (h2.alloc _), (b2.block _ (by simp)).trans h3, ?_, by omega⟩
  exact (((((Below.refl _ w).alloc (Nat.le_refl _) _).alloc (by simp) _).alloc (by simp; omega) _).alloc (by simp; omega) _).trans (b2.mono (by simp; omega))
end Go.Proofs.YtajfgmlockjmhaiGreatDoor
namespace Go.Proofs.YtajfgmlockjmhaiGreatDoor
open Go.RowKit Go.Shelf

theorem lines_any (s : ByteArray) (w : World) :
    Calls Tryz.prog 74 #[.string s] w fun e w' => e = .returned (.func (.func 109) #[] #[.pointer (some ⟨w.heap.size, 0, none⟩)]) ∧ w' = w.alloc (.cells #[.string s] 9) := by
  go_enter Tryz.func74, Tryz.ntmps74
  go_wp2
  go_ret
  exact ⟨rfl, rfl⟩
end Go.Proofs.YtajfgmlockjmhaiGreatDoor
namespace Go.Proofs.YtajfgmlockjmhaiGreatDoor
open Go.RowKit

set_option maxRecDepth 100000 in
set_option maxHeartbeats 2000000 in
theorem cut1_no0 (s : ByteArray) (w : World) (hno : (32 : UInt8) ∉ s.data.toList) :
    Calls Tryz.prog 150 #[.string s, .string ⟨#[32]⟩] w fun e w' => e = .returned (.tuple #[.string s, .string ⟨#[]⟩, .bool false]) ∧ Below w.heap.size w w' := by
  have hix := Tryz.stringslite_Index_one s 32 w
  have hi : Lib.indexByte s.data.toList 32 = -1 := by
    rcases idx_cases 32 s.data.toList with ⟨_, h⟩ | ⟨u, v, h, _, _⟩
    · exact h
    · exact absurd (by rw [h]; simp) hno
  rw [hi] at hix
  clear hi hno
  go_enter Tryz.func150, Tryz.ntmps150
  go_wp2_with (go_at_call 164; refine hix.mono ?_; rintro e w' ⟨rfl, hw'⟩; subst hw')
  go_ret3
  exact ⟨rfl, Below.refl _ _⟩
set_option maxRecDepth 100000 in
set_option maxHeartbeats 2000000 in
theorem cut1_yes0 (s : ByteArray) (u v : List UInt8) (w : World) (hs : s.data.toList = u ++ 32 :: v) (hu : (32 : UInt8) ∉ u) (hl : s.size ≤ 1099511627776) :
    Calls Tryz.prog 150 #[.string s, .string ⟨#[32]⟩] w fun e w' => e = .returned (.tuple #[.string ⟨u.toArray⟩, .string ⟨v.toArray⟩, .bool true]) ∧ Below w.heap.size w w' := by
  have hix := Tryz.stringslite_Index_one s 32 w
  have hi : Lib.indexByte s.data.toList 32 = u.length := by
    rcases idx_cases 32 s.data.toList with ⟨h, _⟩ | ⟨u', v', h, h', h''⟩
    · exact absurd (by rw [hs]; simp) h
    · have e1 := cutGo_at 32 u [] v hu
      have e2 := cutGo_at 32 u' [] v' h'
      rw [← hs] at e1
      rw [← h] at e2
      have := e1.symm.trans e2
      simp only [List.nil_append, List.cons.injEq] at this
      rw [h'', this.1]
  rw [hi] at hix
  have hsz : s.size = u.length + 1 + v.length := by
    have : s.data.toList.length = s.size := by simp
    rw [← this, hs]; simp; omega
  have hx1 : s.extract 0 u.length = ⟨u.toArray⟩ := by rw [ext_eq, hs]; simp
  have hx2 : s.extract (u.length + 1) s.size = ⟨v.toArray⟩ := by
    have : s.data.toList.length = s.size := by simp
    rw [ext_eq, ← this, List.take_length, hs, drop_mid]
  rw [← hx1, ← hx2]
  have hub : (u.length : Int) < s.size := by omega
  have hub2 : u.length + 1 ≤ s.size := by omega
  have hub3 : (u.length : Int) + 1 ≤ s.size := by omega
  clear hi hs hsz hx1 hx2 hu
  go_enter Tryz.func150, Tryz.ntmps150
  go_wp2_with (go_at_call 164; refine hix.mono ?_; rintro e w' ⟨rfl, hw'⟩; subst hw')
  go_region
  all_goals go_wp2
  all_goals go_ret3
  all_goals exact ⟨rfl, (Below.refl _ _).drew⟩
set_option maxRecDepth 100000 in
set_option maxHeartbeats 2000000 in
theorem cut1_of (s : ByteArray) (w : World) (a b : ByteArray) (c : Bool) (h : Calls Tryz.prog 150 #[.string s, .string ⟨#[32]⟩] w fun e w' => e = .returned (.tuple #[.string a, .string b, .bool c]) ∧ Below w.heap.size w w') :
    Calls Tryz.prog 112 #[.string s, .string ⟨#[32]⟩] w fun e w' => e = .returned (.tuple #[.string a, .string b, .bool c]) ∧ Below w.heap.size w w' := by
  go_enter Tryz.func112, Tryz.ntmps112
  go_wp2_with (go_at_call 150; refine h.mono ?_; rintro e w1 ⟨rfl, b1⟩; clear h)
  go_ret3
  exact ⟨rfl, b1⟩
theorem cut1_no (s : ByteArray) (w : World) (hno : (32 : UInt8) ∉ s.data.toList) :
    Calls Tryz.prog 112 #[.string s, .string ⟨#[32]⟩] w fun e w' => e = .returned (.tuple #[.string s, .string ⟨#[]⟩, .bool false]) ∧ Below w.heap.size w w' := cut1_of _ _ _ _ _ (cut1_no0 s w hno)
theorem cut1_yes (s : ByteArray) (u v : List UInt8) (w : World) (hs : s.data.toList = u ++ 32 :: v) (hu : (32 : UInt8) ∉ u) (hl : s.size ≤ 1099511627776) :
    Calls Tryz.prog 112 #[.string s, .string ⟨#[32]⟩] w fun e w' => e = .returned (.tuple #[.string ⟨u.toArray⟩, .string ⟨v.toArray⟩, .bool true]) ∧ Below w.heap.size w w' := cut1_of _ _ _ _ _ (cut1_yes0 s u v w hs hu hl)
end Go.Proofs.YtajfgmlockjmhaiGreatDoor
namespace Go.Proofs.YtajfgmlockjmhaiGreatDoor
open Go.RowKit Go.Shelf
attribute [local go_sem] Oper.semAt_some

set_option maxRecDepth 1000000 in
set_option maxHeartbeats 4000000 in
theorem split_gives (text : List UInt8) (Bi : Nat) (w : World) (hB : Boxed w Bi 9 (encS text)) (hB1 : Boxed w (Bi + 1) 9 (.string ⟨#[32]⟩)) (hB2 : Boxed w (Bi + 2) 3 (.int .i64 0)) (hl : text.length ≤ 1099511627776) :
    Gives Fence.wide 3 Tryz.prog 165 #[.pointer (some ⟨Bi + 1, 0, none⟩), .pointer (some ⟨Bi, 0, none⟩), .pointer (some ⟨Bi + 2, 0, none⟩)] encS Bi 3 (fun xs => xs = cutB 32 text) (fun pre => pre <+: cutB 32 text) (text.length + 1) w := by
  intro l J Jx W hbel hJ hJx hY h0
  have hBW : Boxed W Bi 9 (encS text) := (hbel.block Bi hB.lt).trans hB
  have hBW1 : Boxed W (Bi + 1) 9 (.string ⟨#[32]⟩) := (hbel.block _ hB1.lt).trans hB1
  have hBW2 : Boxed W (Bi + 2) 3 (.int .i64 0) := (hbel.block _ hB2.lt).trans hB2
  have hc1 := hBW1.cell
  refine callsIn_of_wp Tryz.func165 rfl trivial ?_ rfl
  simp only [Tryz.ntmps165, List.size_toArray, List.length_cons, List.length_nil, Nat.reduceAdd, Nat.reduceSub, Array.replicate_succ, Array.replicate_zero, List.push_toArray, List.append_toArray, List.nil_append, List.cons_append]
  gi_wp2
  clear hc1
  gi_loopw [] (fun wr => ∃ (pre : List (List UInt8)) (rest : List UInt8), Boxed wr Bi 9 (encS rest) ∧ Boxed wr (Bi + 1) 9 (.string ⟨#[32]⟩) ∧ Boxed wr (Bi + 2) 3 (.int .i64 0) ∧ pre ++ cutB 32 rest = cutB 32 text ∧ pre.length + rest.length ≤ text.length ∧ J pre wr) (fun wr => boxLen Bi wr)
  case atStart => exact ⟨[], text, hBW, hBW1, hBW2, by simp, by simp, h0⟩
  case round =>
    obtain ⟨pre, rest, hbx, hbx1, hbx2, heq, hlen, hJr⟩ := hrel
    have hfz := hbx.frozen
    obtain ⟨r, hr⟩ : ∃ r : ByteArray, r = ⟨rest.toArray⟩ := ⟨_, rfl⟩
    have hc : wr.cell? ⟨Bi, 0, none⟩ = some (.string r) := by rw [hr]; exact hbx.cell
    have hc1 := hbx1.cell
    have hc2 := hbx2.cell
    have hrs : r.size = rest.length := by rw [hr, ba_size']
    have hrd : r.data.toList = rest := by rw [hr]
    have hix := Tryz.strings_Index_one r 32 wr
    rw [hrd] at hix
    have hlt : pre.length < text.length + 1 := by omega
    rcases idx_cases 32 rest with ⟨hno, hi⟩ | ⟨u, v, hu, hnu, hi⟩
    · rw [hi] at hix
      obtain ⟨fn, tmps, assign, body, hy, hR⟩ := hY pre rest _ hJr hlt
      rw [show encS rest = .string r by rw [hr]; rfl] at hy
      have HL : Hid (cutB 32 text = pre ++ [rest]) := by show _ = _; rw [← heq]; unfold cutB; rw [cutGo_none 32 rest [] hno]; rfl
      clear heq hno hr hi
      gi_wp2_with (refine ⟨trivial, ?_⟩; gi_at_call 167; refine (callsIn_wide.2 hix).mono ?_; rintro e w' ⟨rfl, hw'⟩; subst hw')
      refine hR.mono ?_
      rintro e W3 (⟨rfl, hJ3, hk3⟩ | ⟨rfl, hJx3⟩)
      · clear hy hR
        gi_wp2
        go_end0
        exact ⟨⟨_, rfl⟩, Or.inl ⟨pre ++ [rest], HL.out.symm, hJ3⟩⟩
      · clear hy hR
        gi_wp2
        go_end0
        exact ⟨⟨_, rfl⟩, Or.inr ⟨pre ++ [rest], by rw [HL.out]; exact List.prefix_refl _, hJx3⟩⟩
    · rw [hi] at hix
      have hul : u.length + 1 + v.length = rest.length := by rw [hu]; simp; omega
      have hx1 : r.extract 0 u.length = ⟨u.toArray⟩ := by rw [ext_eq, hrd, hu]; simp
      have hx2 : r.extract (u.length + 1) rest.length = ⟨v.toArray⟩ := by rw [ext_eq, hrd, List.take_length, hu, drop_mid]
      obtain ⟨fn, tmps, assign, body, hy, hR⟩ := hY pre u _ hJr hlt
      rw [show encS u = .string (r.extract 0 u.length) by rw [hx1]; rfl] at hy
      have HL : Hid (cutB 32 text = pre ++ u :: cutB 32 v) := by show _ = _; rw [← heq, hu]; unfold cutB; rw [cutGo_at 32 u [] v hnu]; rfl
      have HN : Hid (boxLen Bi wr = rest.length) := boxLen_of hbx
      have hub : (u.length : Int) < r.size := by omega
      have hub2 : u.length + 1 ≤ r.size := by omega
      have HX : Hid (r.extract (u.length + 1) rest.length = ⟨v.toArray⟩) := hx2
      clear heq hr hi hu hx1 hx2 hrd
      gi_wp2_with (refine ⟨trivial, ?_⟩; gi_at_call 167; refine (callsIn_wide.2 hix).mono ?_; rintro e w' ⟨rfl, hw'⟩; subst hw')
      refine hR.mono ?_
      rintro e W3 (⟨rfl, hJ3, hk3⟩ | ⟨rfl, hJx3⟩)
      · have ex0 : Boxed W3 Bi 9 (.string r) := (hk3 Bi (Nat.le_refl _) (by omega)).trans (Boxed.of_cell hbx hc)
        have ex1 : Boxed W3 (Bi + 1) 9 (.string ⟨#[32]⟩) := (hk3 (Bi + 1) (by omega) (by omega)).trans hbx1
        have ex2 : Boxed W3 (Bi + 2) 3 (.int .i64 0) := (hk3 (Bi + 2) (by omega) (by omega)).trans hbx2
        have e0 := ex0.cell
        have e1 := ex1.cell
        have ef := ex0.frozen
        have g0 := ex0.set (.string (r.extract (u.length + 1) rest.length))
        have g1 := ex1.other (show Bi + 1 ≠ Bi by omega) (.string (r.extract (u.length + 1) rest.length))
        have g2 := ex2.other (show Bi + 2 ≠ Bi by omega) (.string (r.extract (u.length + 1) rest.length))
        have gJ := hJ _ _ _ hJ3 (grownBy_setCell' W3 Bi (.string (r.extract (u.length + 1) rest.length)))
        have HM : Hid (boxLen Bi (W3.setCell ⟨Bi, 0, none⟩ (.string (r.extract (u.length + 1) rest.length))) = v.length) := by rw [HX.out] at g0 ⊢; exact boxLen_of (l := v) g0
        clear hy hR hc hc1 hc2 hfz
        gi_wp2
        go_roundw
        case rel => exact ⟨pre ++ [u], v, by rw [HX.out] at g0 ⊢; exact g0, g1, g2, by rw [HL.out]; simp, by simp; omega, gJ⟩
        case measure => rw [HM.out, HN.out]; omega
      · clear hy hR
        gi_wp2
        refine bodyPost_ret (results_none rfl _ _ _) rfl ?_
        exact ⟨⟨_, rfl⟩, Or.inr ⟨pre ++ [u], by rw [HL.out]; exact ⟨cutB 32 v, by simp⟩, hJx3⟩⟩
end Go.Proofs.YtajfgmlockjmhaiGreatDoor
