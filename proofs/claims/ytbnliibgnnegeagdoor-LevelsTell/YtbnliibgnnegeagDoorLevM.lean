/-
  Groups of rooms, and their least levels, plain.
-/
import Derived.Test.YtbnliibgnnegeagDoorFlowMath
namespace Go.Proofs.YtbnliibgnnegeagDoor

/-- Do two reach each other? -/
def both (l : List W4) (a b : Nat) : Bool := way l a b && way l b a
theorem both_self (l : List W4) (a : Nat) : both l a a = true := by simp [both, way_self]
theorem both_comm (l : List W4) (a b : Nat) : both l a b = both l b a := Bool.and_comm _ _
theorem both_trans {l : List W4} {a b c : Nat} (hb : b < 5) (h1 : both l a b = true) (h2 : both l b c = true) : both l a c = true := by
  simp only [both, Bool.and_eq_true] at h1 h2 ⊢
  exact ⟨way_trans l hb h1.1 h2.1, way_trans l hb h2.2 h1.2⟩
theorem both_left {l : List W4} {a b c : Nat} (ha : a < 5) (hb : b < 5) (h : both l a b = true) : both l a c = both l b c := by
  cases h1 : both l a c with
  | true => exact (both_trans ha (by rw [both_comm]; exact h) h1).symm
  | false =>
    cases h2 : both l b c with
    | false => rfl
    | true => rw [both_trans hb h h2] at h1; cases h1
/-- The group of a room, as far as rooms below k. -/
def grpTo (l : List W4) (a : Nat) : Nat → List Int
  | 0 => []
  | k + 1 => if both l a k = true then grpTo l a k ++ [(k : Int)] else grpTo l a k
def grp (l : List W4) (a : Nat) : List Int := grpTo l a 5
theorem grpTo_mem (l : List W4) (a : Nat) : ∀ (k : Nat) (z : Int), z ∈ grpTo l a k ↔ ∃ b : Nat, z = (b : Int) ∧ b < k ∧ both l a b = true
  | 0, z => by simp [grpTo]
  | k + 1, z => by
    have ih := grpTo_mem l a k z
    unfold grpTo
    by_cases hk : both l a k = true
    · rw [if_pos hk, List.mem_append, ih, List.mem_singleton]
      constructor
      · rintro (⟨b, h1, h2, h3⟩ | h)
        · exact ⟨b, h1, by omega, h3⟩
        · exact ⟨k, h, by omega, hk⟩
      · rintro ⟨b, h1, h2, h3⟩
        by_cases hb : b = k
        · subst hb; exact Or.inr h1
        · exact Or.inl ⟨b, h1, by omega, h3⟩
    · rw [if_neg hk, ih]
      constructor
      · rintro ⟨b, h1, h2, h3⟩
        exact ⟨b, h1, by omega, h3⟩
      · rintro ⟨b, h1, h2, h3⟩
        have hb : b ≠ k := fun e => by subst e; exact hk h3
        exact ⟨b, h1, by omega, h3⟩
theorem grpTo_len (l : List W4) (a : Nat) : ∀ k, (grpTo l a k).length ≤ k
  | 0 => by simp [grpTo]
  | k + 1 => by
    have := grpTo_len l a k
    unfold grpTo
    split
    · rw [List.length_append, List.length_singleton]; omega
    · omega
theorem grpTo_head (l : List W4) (a : Nat) : ∀ k z, (grpTo l a k)[0]? = some z → ∃ b : Nat, z = (b : Int) ∧ b < k ∧ both l a b = true ∧ ∀ c, c < b → both l a c = false
  | 0, z, h => by simp [grpTo] at h
  | k + 1, z, h => by
    have ih := grpTo_head l a k z
    unfold grpTo at h
    by_cases hk : both l a k = true
    · rw [if_pos hk] at h
      by_cases h0 : grpTo l a k = []
      · rw [h0] at h
        simp only [List.nil_append, List.getElem?_cons_zero, Option.some.injEq] at h
        refine ⟨k, h.symm, by omega, hk, fun c hc => ?_⟩
        cases hbc : both l a c with
        | false => rfl
        | true =>
          have := (grpTo_mem l a k (c : Int)).2 ⟨c, rfl, hc, hbc⟩
          rw [h0] at this
          cases this
      · have hl : 0 < (grpTo l a k).length := List.length_pos_iff.2 h0
        rw [List.getElem?_append_left hl] at h
        obtain ⟨b, h1, h2, h3, h4⟩ := ih h
        exact ⟨b, h1, by omega, h3, h4⟩
    · rw [if_neg hk] at h
      obtain ⟨b, h1, h2, h3, h4⟩ := ih h
      exact ⟨b, h1, by omega, h3, h4⟩
/-- Is a room the first of its group? -/
def lead (l : List W4) (a : Nat) : Bool := decide ((grp l a)[0]? = some (a : Int))
theorem lead_iff {l : List W4} {a : Nat} (ha : a < 5) : lead l a = true ↔ ∀ c, c < a → both l a c = false := by
  unfold lead
  rw [decide_eq_true_eq]
  have hm : ((a : Nat) : Int) ∈ grp l a := (grpTo_mem l a 5 _).2 ⟨a, rfl, ha, both_self l a⟩
  obtain ⟨z, hz⟩ : ∃ z, (grp l a)[0]? = some z := by
    cases hg : grp l a with
    | nil => rw [hg] at hm; cases hm
    | cons y t => exact ⟨y, by simp⟩
  obtain ⟨b, h1, h2, h3, h4⟩ := grpTo_head l a 5 z hz
  rw [hz]
  constructor
  · intro e c hc
    have : (b : Int) = (a : Int) := by rw [← h1]; exact Option.some.inj e
    exact h4 c (by omega)
  · intro h
    have hab : b ≤ a := by
      by_cases hh : a < b
      · exact absurd (both_self l a) (by rw [h4 a hh]; simp)
      · omega
    have : b = a := by
      by_cases hh : b < a
      · rw [h b hh] at h3; cases h3
      · omega
    rw [h1, this]
/-- The groups of rooms whose first is below k. -/
def ringsTo (l : List W4) : Nat → List (List Int)
  | 0 => []
  | k + 1 => if lead l k = true then ringsTo l k ++ [grp l k] else ringsTo l k
def ringsL (l : List W4) : List (List Int) := ringsTo l 5
theorem ringsTo_len (l : List W4) : ∀ k, (ringsTo l k).length ≤ k
  | 0 => by simp [ringsTo]
  | k + 1 => by
    have := ringsTo_len l k
    unfold ringsTo
    split
    · rw [List.length_append, List.length_singleton]; omega
    · omega
/-- Each is the group of one that is its first; none stands twice. -/
theorem ringsTo_at (l : List W4) : ∀ (k i : Nat) g, (ringsTo l k)[i]? = some g → ∃ a, a < k ∧ lead l a = true ∧ g = grp l a ∧ (ringsTo l a).length = i
  | 0, i, g, h => by simp [ringsTo] at h
  | k + 1, i, g, h => by
    unfold ringsTo at h
    by_cases hk : lead l k = true
    · rw [if_pos hk] at h
      by_cases hi : i < (ringsTo l k).length
      · rw [List.getElem?_append_left hi] at h
        obtain ⟨a, h1, h2, h3, h4⟩ := ringsTo_at l k i g h
        exact ⟨a, by omega, h2, h3, h4⟩
      · rw [List.getElem?_append_right (by omega)] at h
        have hz : i - (ringsTo l k).length = 0 := by
          by_cases hh : i - (ringsTo l k).length = 0
          · exact hh
          · rw [List.getElem?_eq_none (by simp; omega)] at h
            cases h
        rw [hz] at h
        simp only [List.getElem?_cons_zero, Option.some.injEq] at h
        exact ⟨k, by omega, hk, h.symm, by omega⟩
    · rw [if_neg hk] at h
      obtain ⟨a, h1, h2, h3, h4⟩ := ringsTo_at l k i g h
      exact ⟨a, by omega, h2, h3, h4⟩
theorem ringsTo_mono (l : List W4) : ∀ {a b : Nat}, a ≤ b → (ringsTo l a).length ≤ (ringsTo l b).length := by
  intro a b hab
  induction b with
  | zero => have : a = 0 := by omega
            subst this; exact Nat.le_refl _
  | succ b ih =>
    by_cases h : a = b + 1
    · subst h; exact Nat.le_refl _
    · have := ih (by omega)
      refine Nat.le_trans this ?_
      show _ ≤ (if lead l b = true then ringsTo l b ++ [grp l b] else ringsTo l b).length
      split
      · simp
      · exact Nat.le_refl _
theorem ringsTo_lt (l : List W4) {a b : Nat} (hab : a < b) (ha : lead l a = true) : (ringsTo l a).length < (ringsTo l b).length := by
  have h1 : (ringsTo l (a + 1)).length = (ringsTo l a).length + 1 := by
    show (if lead l a = true then ringsTo l a ++ [grp l a] else ringsTo l a).length = _
    rw [if_pos ha]
    simp
  have h2 := ringsTo_mono l (show a + 1 ≤ b by omega)
  omega
/-- There is a first one. -/
theorem first_of (l : List W4) (a : Nat) : ∃ b, b ≤ a ∧ both l a b = true ∧ ∀ c, c < b → both l a c = false := by
  have go : ∀ n, ∀ k, k + n = a → (∀ c, c < k → both l a c = false) → ∃ b, b ≤ a ∧ both l a b = true ∧ ∀ c, c < b → both l a c = false := by
    intro n
    induction n with
    | zero => exact fun k hk h => ⟨a, Nat.le_refl _, both_self l a, by rw [show a = k by omega]; exact fun c hc => by have := h c hc; rwa [show a = k by omega] at this⟩
    | succ n ih =>
      intro k hk h
      cases hb : both l a k with
      | true => exact ⟨k, by omega, hb, h⟩
      | false =>
        refine ih (k + 1) (by omega) (fun c hc => ?_)
        by_cases hck : c = k
        · subst hck; exact hb
        · exact h c (by omega)
  exact go a 0 (by omega) (fun c hc => by omega)
theorem lead_of {l : List W4} {a : Nat} (ha : a < 5) : ∃ b, b ≤ a ∧ both l a b = true ∧ lead l b = true := by
  obtain ⟨b, h1, h2, h3⟩ := first_of l a
  refine ⟨b, h1, h2, (lead_iff (by omega)).2 (fun c hc => ?_)⟩
  rw [← both_left ha (by omega) h2]
  exact h3 c hc
theorem lead_one {l : List W4} {a b : Nat} (ha : a < 5) (hb : b < 5) (h1 : lead l a = true) (h2 : lead l b = true) (h : both l a b = true) : a = b := by
  have h3 := (lead_iff ha).1 h1
  have h4 := (lead_iff hb).1 h2
  by_cases hab : a < b
  · have := h4 a hab
    rw [both_comm, h] at this
    cases this
  · by_cases hba : b < a
    · rw [h3 b hba] at h
      cases h
    · omega
/-- Does a wire lead from another group up to the group of a room? -/
def ups (l : List W4) (r : Nat) (x : W4) : Bool := way l x.2.1.toNat r && way l r x.2.1.toNat && !way l x.2.1.toNat x.1.toNat
/-- The greatest of some numbers. -/
def big {α : Type} (c : α → Bool) (f : α → Nat) (m : Nat) (l : List α) : Nat := l.foldl (fun m x => if c x = true then max m (f x) else m) m
theorem big_cons {α : Type} (c : α → Bool) (f : α → Nat) (m : Nat) (x : α) (l : List α) : big c f m (x :: l) = big c f (if c x = true then max m (f x) else m) l := rfl
theorem big_base {α : Type} (c : α → Bool) (f : α → Nat) : ∀ (l : List α) (m : Nat), m ≤ big c f m l
  | [], m => Nat.le_refl _
  | x :: l, m => by
    rw [big_cons]
    refine Nat.le_trans ?_ (big_base c f l _)
    split
    · exact Nat.le_max_left _ _
    · exact Nat.le_refl _
theorem big_ge {α : Type} (c : α → Bool) (f : α → Nat) : ∀ (l : List α) (m : Nat) (x : α), x ∈ l → c x = true → f x ≤ big c f m l
  | [], m, x, hx, _ => by cases hx
  | y :: l, m, x, hx, hc => by
    rw [big_cons]
    rcases List.mem_cons.1 hx with e | e
    · subst e
      rw [if_pos hc]
      exact Nat.le_trans (Nat.le_max_right _ _) (big_base c f l _)
    · exact big_ge c f l _ x e hc
theorem big_le {α : Type} (c : α → Bool) (f : α → Nat) {M : Nat} : ∀ (l : List α) (m : Nat), m ≤ M → (∀ x ∈ l, c x = true → f x ≤ M) → big c f m l ≤ M
  | [], m, hm, _ => hm
  | x :: l, m, hm, h => by
    rw [big_cons]
    refine big_le c f l _ ?_ (fun y hy => h y (List.mem_cons_of_mem _ hy))
    split
    · rename_i hc
      exact Nat.max_le.2 ⟨hm, h x (List.mem_cons_self ..) hc⟩
    · exact hm
theorem big_congr {α : Type} {c d : α → Bool} {f g : α → Nat} : ∀ (l : List α) (m : Nat), (∀ x ∈ l, c x = d x ∧ (d x = true → f x = g x)) → big c f m l = big d g m l
  | [], m, _ => rfl
  | x :: l, m, h => by
    rw [big_cons, big_cons]
    obtain ⟨h1, h2⟩ := h x (List.mem_cons_self ..)
    have e : (if c x = true then max m (f x) else m) = (if d x = true then max m (g x) else m) := by
      rw [h1]
      split
      · rename_i hd
        rw [h2 hd]
      · rfl
    rw [e]
    exact big_congr l _ (fun y hy => h y (List.mem_cons_of_mem _ hy))
theorem big_snoc {α : Type} (c : α → Bool) (f : α → Nat) (m : Nat) (l : List α) (x : α) : big c f m (l ++ [x]) = if c x = true then max (big c f m l) (f x) else big c f m l := by
  unfold big
  rw [List.foldl_append]
  rfl
/-- A room's least level, by as many groups as there may be. -/
def lvF (l : List W4) : Nat → Nat → Nat
  | 0, _ => 0
  | f + 1, r => big (ups l r) (fun x => lvF l f x.1.toNat + 1) 0 l
def lev (l : List W4) (r : Nat) : Nat := lvF l 5 r
theorem lvF_le (l : List W4) : ∀ f r, lvF l f r ≤ f
  | 0, r => Nat.le_refl _
  | f + 1, r => big_le _ _ l 0 (Nat.zero_le _) (fun x _ _ => by have := lvF_le l f x.1.toNat; show _ + 1 ≤ _; omega)
theorem lev_le (l : List W4) (r : Nat) : lev l r ≤ 5 := lvF_le l 5 r
/-- How many reach a room. -/
def rk (l : List W4) (r : Nat) : Nat := ((List.range 5).filter fun c => way l c r).length
theorem rk_le (l : List W4) (r : Nat) : rk l r ≤ 5 := by
  have := List.length_filter_le (fun c => way l c r) (List.range 5)
  simpa [rk] using this
theorem rk_pos (l : List W4) {r : Nat} (hr : r < 5) : 0 < rk l r := by
  unfold rk
  exact List.length_pos_of_mem (List.mem_filter.2 ⟨List.mem_range.2 hr, way_self l r⟩)
theorem filt_lt {α : Type} {p q : α → Bool} : ∀ {l : List α}, (∀ x ∈ l, p x = true → q x = true) → (∃ x ∈ l, q x = true ∧ p x = false) → (l.filter p).length < (l.filter q).length
  | [], _, ⟨x, hx, _⟩ => by cases hx
  | y :: l, h, ⟨x, hx, h1, h2⟩ => by
    have hle : (l.filter p).length ≤ (l.filter q).length := by
      have : ∀ l : List α, (∀ x ∈ l, p x = true → q x = true) → (l.filter p).length ≤ (l.filter q).length := by
        intro l
        induction l with
        | nil => intro _; exact Nat.le_refl _
        | cons z t ih =>
          intro h
          have ih := ih (fun x hx => h x (List.mem_cons_of_mem _ hx))
          rw [List.filter_cons, List.filter_cons]
          by_cases hp : p z = true
          · rw [if_pos hp, if_pos (h z (List.mem_cons_self ..) hp)]
            simp only [List.length_cons]
            omega
          · rw [if_neg hp]
            split
            · simp only [List.length_cons]; omega
            · exact ih
      exact this l (fun x hx => h x (List.mem_cons_of_mem _ hx))
    rw [List.filter_cons, List.filter_cons]
    rcases List.mem_cons.1 hx with e | e
    · subst e
      rw [if_neg (by rw [h2]; simp), if_pos h1]
      simp only [List.length_cons]
      omega
    · have := filt_lt (fun z hz => h z (List.mem_cons_of_mem _ hz)) ⟨x, e, h1, h2⟩
      by_cases hp : p y = true
      · rw [if_pos hp, if_pos (h y (List.mem_cons_self ..) hp)]
        simp only [List.length_cons]
        omega
      · rw [if_neg hp]
        split
        · simp only [List.length_cons]; omega
        · exact this
theorem way_wire {l : List W4} {x : W4} (hx : x ∈ l) (hk : w4chk x = 0) : way l x.1.toNat x.2.1.toNat = true := by
  obtain ⟨h1, _, h3, _⟩ := w4_rooms hk
  exact pm_edge _ 5 _ _ (edge_wire hx (by omega) (by omega))
theorem ups_rk {l : List W4} {r : Nat} (hr : r < 5) {x : W4} (hx : x ∈ l) (hk : w4chk x = 0) (hu : ups l r x = true) : x.1.toNat < 5 ∧ rk l x.1.toNat < rk l r := by
  obtain ⟨h1, h2, h3, h4, _⟩ := w4_rooms hk
  simp only [ups, Bool.and_eq_true, Bool.not_eq_true'] at hu
  obtain ⟨⟨u1, u2⟩, u3⟩ := hu
  have hw := way_wire hx hk
  refine ⟨by omega, filt_lt (fun c _ hc => ?_) ⟨r, List.mem_range.2 hr, way_self l r, ?_⟩⟩
  · exact way_trans l (by omega) (way_trans l (by omega) hc hw) u1
  · cases hn : way l r x.1.toNat with
    | false => rfl
    | true => rw [way_trans l hr u1 hn] at u3; cases u3
theorem lvF_stable {l : List W4} (hok : ∀ x ∈ l, w4chk x = 0) : ∀ (f g r : Nat), r < 5 → rk l r ≤ f → rk l r ≤ g → lvF l f r = lvF l g r
  | 0, g, r, hr, hf, _ => by have := rk_pos l hr; omega
  | f + 1, 0, r, hr, _, hg => by have := rk_pos l hr; omega
  | f + 1, g + 1, r, hr, hf, hg => big_congr l 0 (fun x hx => ⟨rfl, fun hu => by
      obtain ⟨h1, h2⟩ := ups_rk hr hx (hok x hx) hu
      have := lvF_stable hok f g x.1.toNat h1 (by omega) (by omega)
      show _ + 1 = _ + 1
      rw [this]⟩)
theorem lev_eq {l : List W4} (hok : ∀ x ∈ l, w4chk x = 0) {r : Nat} (hr : r < 5) : lev l r = big (ups l r) (fun x => lev l x.1.toNat + 1) 0 l :=
  big_congr l 0 (fun x hx => ⟨rfl, fun hu => by
    obtain ⟨h1, h2⟩ := ups_rk hr hx (hok x hx) hu
    have h3 := rk_le l r
    have := lvF_stable hok 4 5 x.1.toNat h1 (by omega) (by omega)
    show _ + 1 = _ + 1
    unfold lev
    rw [this]⟩)
/-- Who is in one group is on one level. -/
theorem lev_same {l : List W4} (hok : ∀ x ∈ l, w4chk x = 0) {a b : Nat} (ha : a < 5) (hb : b < 5) (h : both l a b = true) : lev l a = lev l b := by
  rw [lev_eq hok ha, lev_eq hok hb]
  refine big_congr l 0 (fun x hx => ⟨?_, fun _ => rfl⟩)
  obtain ⟨h1, h2, h3, h4, _⟩ := w4_rooms (hok x hx)
  have e := both_left (c := x.2.1.toNat) ha hb h
  rw [both_comm l a, both_comm l b] at e
  show (way l x.2.1.toNat a && way l a x.2.1.toNat && _) = (way l x.2.1.toNat b && way l b x.2.1.toNat && _)
  rw [show (way l x.2.1.toNat a && way l a x.2.1.toNat) = both l x.2.1.toNat a from rfl, show (way l x.2.1.toNat b && way l b x.2.1.toNat) = both l x.2.1.toNat b from rfl, e]
/-- A wire to another group leads up. -/
theorem lev_up {l : List W4} (hok : ∀ x ∈ l, w4chk x = 0) {x : W4} (hx : x ∈ l) (h : both l x.1.toNat x.2.1.toNat = false) : lev l x.1.toNat < lev l x.2.1.toNat := by
  obtain ⟨h1, h2, h3, h4, _⟩ := w4_rooms (hok x hx)
  rw [lev_eq hok (r := x.2.1.toNat) (by omega)]
  refine big_ge (ups l x.2.1.toNat) (fun x => lev l x.1.toNat + 1) l 0 x hx ?_
  unfold both at h
  rw [way_wire hx (hok x hx), Bool.true_and] at h
  simp [ups, way_self, h]
/-- No other levels of that kind are lower anywhere. -/
theorem lev_least {l : List W4} (hok : ∀ x ∈ l, w4chk x = 0) {o : Nat → Int} (h0 : ∀ r, r < 5 → 0 ≤ o r) (h : ∀ x ∈ l, o x.1.toNat < o x.2.1.toNat ∨ (both l x.1.toNat x.2.1.toNat = true ∧ o x.1.toNat = o x.2.1.toNat)) {r : Nat} (hr : r < 5) : (lev l r : Int) ≤ o r := by
  have hw : ∀ {a b : Nat}, way l a b = true → o a ≤ o b := fun {a b} hab => way_least (R := fun i k => o i ≤ o k) (fun i => Int.le_refl _) (fun x hx i k e1 e2 => by
    have := h x hx
    rw [e1, e2] at this
    simp only [Int.toNat_natCast] at this
    omega) (fun i j k a b => Int.le_trans a b) hab
  have go : ∀ f r, r < 5 → (lvF l f r : Int) ≤ o r := by
    intro f
    induction f with
    | zero => exact fun r hr => h0 r hr
    | succ f ih =>
      intro r hr
      have hle : lvF l (f + 1) r ≤ (o r).toNat := big_le _ _ l 0 (Nat.zero_le _) (fun x hx hu => by
        obtain ⟨h1, h2, h3, h4, _⟩ := w4_rooms (hok x hx)
        have i1 := ih x.1.toNat (by omega)
        simp only [ups, Bool.and_eq_true, Bool.not_eq_true'] at hu
        obtain ⟨⟨u1, u2⟩, u3⟩ := hu
        have i2 := hw u1
        have i3 : o x.1.toNat < o x.2.1.toNat := by
          rcases h x hx with e | ⟨e, _⟩
          · exact e
          · simp only [both, Bool.and_eq_true] at e
            rw [e.2] at u3
            cases u3
        show lvF l f x.1.toNat + 1 ≤ _
        omega)
      have := h0 r hr
      omega
  exact go 5 r hr
end Go.Proofs.YtbnliibgnnegeagDoor
