/-
  take: a line taken into a draft, if it may stand there.
-/
import Derived.Test.YtamnfadngbbaeacGreatDoorPlTakeOp
import Derived.Test.YtamnfadngbbaeacGreatDoorPlTab
namespace Go.Proofs.YtamnfadngbbaeacGreatDoor
open Go.RowKit

theorem actB_read {k : Nat} {l p : List UInt8} {ns : List Int} (h : readB l = some (p, ns)) : actB k l = if p = wFrame then actF k ns else if p = wSpan then actS k ns else if p = wWire then actW k ns else if p = wRoom then actR k ns else actO k (opRead l) := by
  unfold actB
  rw [h]
theorem actB_unread {k : Nat} {l : List UInt8} (h : readB l = none) : actB k l = none := by
  unfold actB
  rw [h]
theorem actB_op {k : Nat} {l p : List UInt8} {ns : List Int} (h : readB l = some (p, ns)) (hk : kindB p = 0) : actB k l = actO k (opRead l) := by
  have h1 : p ≠ wFrame := fun e => by rw [e] at hk; revert hk; decide
  have h2 : p ≠ wSpan := fun e => by rw [e] at hk; revert hk; decide
  have h3 : p ≠ wWire := fun e => by rw [e] at hk; revert hk; decide
  have h4 : p ≠ wRoom := fun e => by rw [e] at hk; revert hk; decide
  rw [actB_read h, if_neg h1, if_neg h2, if_neg h3, if_neg h4]
theorem actB_word {k c : Nat} {l : List UInt8} {ns : List Int} (h1 : 1 ≤ c) (h2 : c ≤ 4) (h : readB l = some (wordB c, ns)) : actB k l = if c = 1 then actF k ns else if c = 2 then actS k ns else if c = 3 then actW k ns else actR k ns := by
  rw [actB_read h]
  have hc : c = 1 ∨ c = 2 ∨ c = 3 ∨ c = 4 := by omega
  rcases hc with rfl | rfl | rfl | rfl
  · rw [if_pos (show wordB 1 = wFrame from rfl)]
    rfl
  · rw [if_neg (by decide), if_pos (show wordB 2 = wSpan from rfl)]
    rfl
  · rw [if_neg (by decide), if_neg (by decide), if_pos (show wordB 3 = wWire from rfl)]
    rfl
  · rw [if_neg (by decide), if_neg (by decide), if_neg (by decide), if_pos (show wordB 4 = wRoom from rfl)]
    rfl
theorem actB_len {k c : Nat} {l : List UInt8} {ns : List Int} (h1 : 1 ≤ c) (h2 : c ≤ 4) (h : readB l = some (wordB c, ns)) (hl : ns.length ≠ numsN c) : actB k l = none := by
  rw [actB_word h1 h2 h]
  have hc : c = 1 ∨ c = 2 ∨ c = 3 ∨ c = 4 := by omega
  rcases hc with rfl | rfl | rfl | rfl
  · rw [if_pos rfl]
    rcases ns with _ | ⟨a, _ | ⟨b, r⟩⟩
    all_goals first | rfl | exact absurd rfl hl
  · rw [if_neg (by decide), if_pos rfl]
    rcases ns with _ | ⟨a, _ | ⟨b, _ | ⟨c, _ | ⟨d, r⟩⟩⟩⟩
    all_goals first | rfl | exact absurd rfl hl
  · rw [if_neg (by decide), if_neg (by decide), if_pos rfl]
    rcases ns with _ | ⟨a, _ | ⟨b, _ | ⟨c, _ | ⟨d, _ | ⟨e, r⟩⟩⟩⟩⟩
    all_goals first | rfl | exact absurd rfl hl
  · rw [if_neg (by decide), if_neg (by decide), if_neg (by decide)]
    rcases ns with _ | ⟨a, r⟩
    all_goals first | rfl | exact absurd rfl hl
theorem actB_foll {k c : Nat} {l : List UInt8} {ns : List Int} (hk : k ≤ 4) (h1 : 1 ≤ c) (h2 : c ≤ 4) (h : readB l = some (wordB c, ns)) (hf : follB k c = false) : actB k l = none := by
  rw [actB_word h1 h2 h]
  have hc : c = 1 ∨ c = 2 ∨ c = 3 ∨ c = 4 := by omega
  rcases hc with rfl | rfl | rfl | rfl
  · have h0 : k ≠ 0 := by simpa [follB] using hf
    rw [if_pos rfl]
    rcases ns with _ | ⟨a, _ | ⟨b, r⟩⟩
    all_goals first | rfl | (simp only [actF]; rw [if_neg h0])
  · have h0 : ¬ (1 ≤ k ∧ k ≤ 2) := by simp [follB] at hf; omega
    rw [if_neg (by decide), if_pos rfl]
    rcases ns with _ | ⟨a, _ | ⟨b, _ | ⟨c, _ | ⟨d, r⟩⟩⟩⟩
    all_goals first | rfl | (simp only [actS]; rw [if_neg h0])
  · have h0 : ¬ (1 ≤ k ∧ k ≤ 3) := by simp [follB] at hf; omega
    rw [if_neg (by decide), if_neg (by decide), if_pos rfl]
    rcases ns with _ | ⟨a, _ | ⟨b, _ | ⟨c, _ | ⟨d, _ | ⟨e, r⟩⟩⟩⟩⟩
    all_goals first | rfl | (simp only [actW]; rw [if_neg h0])
  · have h0 : ¬ 1 ≤ k := by simp [follB] at hf; omega
    rw [if_neg (by decide), if_neg (by decide), if_neg (by decide)]
    rcases ns with _ | ⟨a, r⟩
    all_goals first | rfl | (simp only [actR]; rw [if_neg h0])
theorem read_own {w' : World} {base : Nat} {vv : Value} {ns : List Int} (h : w'.ownsRow base 3 1 vv ns.length (ns.map (Value.int .i64))) : ∃ ao cap, vv = .slice ao ns.length cap := own_sl h

section
variable (base pb : Nat) (d : PD) (k : Nat) (vc vs vw : Value) (us : List Value) (s : ByteArray) (w : World)
set_option maxRecDepth 100000 in
set_option maxHeartbeats 4000000 in
theorem take_unread (h : Dr w base pb d k vc vs vw us) (ht : Tabs2 w) (hl : s.size ≤ 1099511627776) (hr : readB s.data.toList = none) :
    Calls Tryz.prog 32 #[.pointer (some ⟨pb, 0, none⟩), .string s] w fun e w' => e = .returned (.bool false) ∧ Step base pb d k w w' := by
  have hrd : Calls Tryz.prog 55 #[.string s, .int .i64 4] w fun e w' => e = .returned (.tuple #[.string ⟨#[]⟩, .slice none 0 0, .bool false]) ∧ Below w.heap.size w w' := (read_any s w ht hl).mono (by
    rintro e w' ⟨⟨p, ns, vv, h1, _⟩ | ⟨_, h2⟩, hb⟩
    · rw [hr] at h1; cases h1
    · exact ⟨h2, hb⟩)
  have H : Hid (Dr w base pb d k vc vs vw us) := h
  clear h ht hr
  go_enter Tryz.func32, Tryz.ntmps32
  go_wp2_with (go_at_call 55; refine hrd.mono ?_; rintro e w1 ⟨rfl, b1⟩; clear hrd)
  go_ret
  exact ⟨rfl, step_below H.out b1⟩
/-- What words.Read leaves of a line that is one. -/
theorem read_yes {s : ByteArray} {w : World} (ht : Tabs2 w) (hl : s.size ≤ 1099511627776) {p : List UInt8} {ns : List Int} (hr : readB s.data.toList = some (p, ns)) :
    Calls Tryz.prog 55 #[.string s, .int .i64 4] w fun e w' => ∃ ao cap, e = .returned (.tuple #[.string ⟨p.toArray⟩, .slice ao ns.length cap, .bool true]) ∧ w'.ownsRow w.heap.size 3 1 (.slice ao ns.length cap) ns.length (ns.map (Value.int .i64)) ∧ Below w.heap.size w w' := (read_any s w ht hl).mono (by
    rintro e w' ⟨⟨p', ns', vv, h1, h2, h3⟩ | ⟨h1, _⟩, hb⟩
    · rw [hr] at h1
      obtain ⟨rfl, rfl⟩ := Prod.mk.inj (Option.some.inj h1)
      obtain ⟨ao, cap, rfl⟩ := own_sl h3
      exact ⟨ao, cap, h2, h3, hb⟩
    · rw [hr] at h1; cases h1)
set_option maxRecDepth 100000 in
set_option maxHeartbeats 4000000 in
theorem take_op (h : Dr w base pb d k vc vs vw us) (hk : Kept k d) (ht : Tabs2 w) (hp : Parts w) (hl : s.size ≤ 1099511627776) {p : List UInt8} {ns : List Int} (hr : readB s.data.toList = some (p, ns)) (hkd : kindB p = 0) :
    Calls Tryz.prog 32 #[.pointer (some ⟨pb, 0, none⟩), .string s] w (Took base pb d k (actO k (opRead s.data.toList)) w) := by
  have hrd := read_yes ht hl hr
  have hto : ∀ W, Below w.heap.size w W → Calls Tryz.prog 57 #[.pointer (some ⟨pb, 0, none⟩), .string s] W fun e w' => ∃ b, e = .returned (.bool b) ∧ Took base pb d k (actO k (opRead s.data.toList)) W (.returned (.bool b)) w' := fun W hb => by
    cases ho : opRead s.data.toList with
    | none =>
      refine (takeop_bad base pb d k vc vs vw us s W (h.below hb) (ht.all hb) hl ho).mono ?_
      rintro e w' ⟨rfl, hs⟩
      exact ⟨false, rfl, rfl, hs⟩
    | some o =>
      by_cases hk4 : k = 4
      · subst hk4
        refine (takeop_yes base pb d vc vs vw us s o W (h.below hb) hk (ht.all hb) hl ho).mono ?_
        rintro e w' ⟨rfl, hs⟩
        exact ⟨true, rfl, rfl, hs⟩
      · refine (takeop_no base pb d k vc vs vw us s o W (h.below hb) (ht.all hb) hl ho hk4).mono ?_
        rintro e w' ⟨rfl, hs⟩
        refine ⟨false, rfl, ?_⟩
        have : actO k (some o) = none := by simp only [actO]; rw [if_neg hk4]
        rw [this]
        exact ⟨rfl, hs⟩
  have hnm : ∀ W, Below w.heap.size w W → Calls Tryz.prog 56 #[.string ⟨p.toArray⟩] W fun e w' => e = .returned (.int .i64 0) ∧ w' = W := fun W hb => by
    have := plnamed_any ⟨p.toArray⟩ W (hp.all hb)
    rw [show (⟨p.toArray⟩ : ByteArray).data.toList = p by simp, hkd] at this
    exact this
  have HT : Hid (∀ W, Below w.heap.size w W → Calls Tryz.prog 57 #[.pointer (some ⟨pb, 0, none⟩), .string s] W fun e w' => ∃ b, e = .returned (.bool b) ∧ Took base pb d k (actO k (opRead s.data.toList)) W (.returned (.bool b)) w') := hto
  have HN : Hid (∀ W, Below w.heap.size w W → Calls Tryz.prog 56 #[.string ⟨p.toArray⟩] W fun e w' => e = .returned (.int .i64 0) ∧ w' = W) := hnm
  have HLE : Hid (base ≤ w.heap.size ∧ pb < base) := ⟨h.rp.le, h.rp.lt⟩
  clear h hk ht hp hr hkd hto hnm hl
  go_enter Tryz.func32, Tryz.ntmps32
  go_wp2_with (first
    | (go_at_call 55; refine hrd.mono ?_; rintro e w1 ⟨ao, cap, rfl, own1, b1⟩; clear hrd; have q1 := HN.out w1 b1)
    | (go_at_call 56; refine q1.mono ?_; rintro e w2 ⟨rfl, hw2⟩; subst hw2; clear q1; have q2 := HT.out _ b1)
    | (go_at_call 57; refine q2.mono ?_; rintro e w3 ⟨b, rfl, ht3⟩; clear q2))
  go_ret
  have tk1 := Tk.of_below b1 HLE.out.1 HLE.out.2
  generalize actO k (opRead s.data.toList) = A at ht3 ⊢
  cases A with
  | none => exact ⟨ht3.1, ht3.2.1, tk1.trans ht3.2.2⟩
  | some a => exact ⟨ht3.1, ht3.2.1, tk1.trans ht3.2.2⟩
set_option maxRecDepth 100000 in
set_option maxHeartbeats 4000000 in
theorem take_long (c : Nat) (h1 : 1 ≤ c) (h2 : c ≤ 4) (h : Dr w base pb d k vc vs vw us) (ht : Tabs2 w) (hp : Parts w) (hl : s.size ≤ 1099511627776) {ns : List Int} (hr : readB s.data.toList = some (wordB c, ns)) (hn : ns.length ≠ numsN c) :
    Calls Tryz.prog 32 #[.pointer (some ⟨pb, 0, none⟩), .string s] w fun e w' => e = .returned (.bool false) ∧ Step base pb d k w w' := by
  have hrd := read_yes ht hl hr
  have hnm0 : ∀ W, Below w.heap.size w W → Calls Tryz.prog 56 #[.string ⟨(wordB c).toArray⟩] W fun e w' => e = .returned (.int .i64 c) ∧ w' = W := fun W hb => by
    have := plnamed_any ⟨(wordB c).toArray⟩ W (hp.all hb)
    rw [show (⟨(wordB c).toArray⟩ : ByteArray).data.toList = wordB c by simp, kind_word c h1 h2] at this
    exact this
  have HN : Hid (∀ W, Below w.heap.size w W → Calls Tryz.prog 56 #[.string ⟨(wordB c).toArray⟩] W fun e w' => e = .returned (.int .i64 c) ∧ w' = W) := hnm0
  clear hnm0
  have HPT : Hid (∀ W, Below w.heap.size w W → W.cell? ⟨0, c * 2 + 1, none⟩ = some (.int .i64 (numsN c))) := fun W hb => (parts_at (hp.all hb) c h1 h2).2
  have H : Hid (Dr w base pb d k vc vs vw us) := h
  have hnn : ¬ ((ns.length : Int) = ((numsN c : Nat) : Int)) := by omega
  have hnm : ((ns.length : Int) == ((numsN c : Nat) : Int)) = false := by simp; omega
  have hc0 : ((c : Int) == 0) = false := by simp; omega
  generalize wordB c = wd at hrd HN
  generalize numsN c = nn at HPT hnn hnm
  clear h ht hp hr hn hl
  go_enter Tryz.func32, Tryz.ntmps32
  go_wp2_with (first
    | (go_at_call 55; refine hrd.mono ?_; rintro e w1 ⟨ao, cap, rfl, own1, b1⟩; clear hrd; have q1 := HN.out w1 b1; have cp := HPT.out w1 b1)
    | (go_at_call 56; refine q1.mono ?_; rintro e w2 ⟨rfl, hw2⟩; subst hw2; clear q1))
  go_ret
  exact ⟨rfl, step_below H.out b1⟩
set_option maxRecDepth 100000 in
set_option maxHeartbeats 4000000 in
theorem take_foll (c : Nat) (h1 : 1 ≤ c) (h2 : c ≤ 4) (h : Dr w base pb d k vc vs vw us) (hk : Kept k d) (ht : Tabs2 w) (hp : Parts w) (hl : s.size ≤ 1099511627776) {ns : List Int} (hr : readB s.data.toList = some (wordB c, ns)) (hn : ns.length = numsN c) (hf : follB k c = false) :
    Calls Tryz.prog 32 #[.pointer (some ⟨pb, 0, none⟩), .string s] w fun e w' => e = .returned (.bool false) ∧ Step base pb d k w w' := by
  have hrd := read_yes ht hl hr
  have hfo := fun W => follows_any k c W hk.le h1 h2
  rw [hf] at hfo
  have hnm0 : ∀ W, Below w.heap.size w W → Calls Tryz.prog 56 #[.string ⟨(wordB c).toArray⟩] W fun e w' => e = .returned (.int .i64 c) ∧ w' = W := fun W hb => by
    have := plnamed_any ⟨(wordB c).toArray⟩ W (hp.all hb)
    rw [show (⟨(wordB c).toArray⟩ : ByteArray).data.toList = wordB c by simp, kind_word c h1 h2] at this
    exact this
  have HN : Hid (∀ W, Below w.heap.size w W → Calls Tryz.prog 56 #[.string ⟨(wordB c).toArray⟩] W fun e w' => e = .returned (.int .i64 c) ∧ w' = W) := hnm0
  clear hnm0
  have HPT : Hid (∀ W, Below w.heap.size w W → W.cell? ⟨0, c * 2 + 1, none⟩ = some (.int .i64 (numsN c))) := fun W hb => (parts_at (hp.all hb) c h1 h2).2
  have H : Hid (Dr w base pb d k vc vs vw us) := h
  have hc0 : ((c : Int) == 0) = false := by simp; omega
  rw [← hn] at HPT
  generalize wordB c = wd at hrd HN
  clear h ht hp hr hn hl hf hk
  go_enter Tryz.func32, Tryz.ntmps32
  go_wp2_with (first
    | (go_at_call 55; refine hrd.mono ?_; rintro e w1 ⟨ao, cap, rfl, own1, b1⟩; clear hrd; have q1 := HN.out w1 b1; have cp := HPT.out w1 b1; have c4 := (H.out.below b1).c4)
    | (go_at_call 56; refine q1.mono ?_; rintro e w2 ⟨rfl, hw2⟩; subst hw2; clear q1)
    | (go_at_call 58; refine (hfo _).mono ?_; rintro e w3 ⟨rfl, hw3⟩; subst hw3; clear hfo))
  go_ret
  exact ⟨rfl, step_below H.out b1⟩
set_option maxRecDepth 100000 in
set_option maxHeartbeats 4000000 in
theorem take_lay (c : Nat) (d' : PD) (h1 : 1 ≤ c) (h2 : c ≤ 4) (h : Dr w base pb d k vc vs vw us) (hk : Kept k d) (ht : Tabs2 w) (hp : Parts w) (hl : s.size ≤ 1099511627776) {ns : List Int} (hr : readB s.data.toList = some (wordB c, ns)) (hn : ns.length = numsN c) (hf : follB k c = true)
    (hlay : ∀ (W : World) ao cap, Dr W base pb d c vc vs vw us → W.ownsRow w.heap.size 3 1 (.slice ao ns.length cap) ns.length (ns.map (Value.int .i64)) → Calls Tryz.prog 59 #[.pointer (some ⟨pb, 0, none⟩), .int .i64 c, .slice ao ns.length cap] W fun e w' => (∃ v, e = .returned v) ∧ Step base pb d' c W w') :
    Calls Tryz.prog 32 #[.pointer (some ⟨pb, 0, none⟩), .string s] w fun e w' => e = .returned (.bool true) ∧ Step base pb d' c w w' := by
  have hrd := read_yes ht hl hr
  have hfo := fun W => follows_any k c W hk.le h1 h2
  rw [hf] at hfo
  have hnm0 : ∀ W, Below w.heap.size w W → Calls Tryz.prog 56 #[.string ⟨(wordB c).toArray⟩] W fun e w' => e = .returned (.int .i64 c) ∧ w' = W := fun W hb => by
    have := plnamed_any ⟨(wordB c).toArray⟩ W (hp.all hb)
    rw [show (⟨(wordB c).toArray⟩ : ByteArray).data.toList = wordB c by simp, kind_word c h1 h2] at this
    exact this
  have HN : Hid (∀ W, Below w.heap.size w W → Calls Tryz.prog 56 #[.string ⟨(wordB c).toArray⟩] W fun e w' => e = .returned (.int .i64 c) ∧ w' = W) := hnm0
  clear hnm0
  have HPT : Hid (∀ W, Below w.heap.size w W → W.cell? ⟨0, c * 2 + 1, none⟩ = some (.int .i64 (numsN c))) := fun W hb => (parts_at (hp.all hb) c h1 h2).2
  have H : Hid (Dr w base pb d k vc vs vw us) := h
  have hpb : pb < w.heap.size := Nat.lt_of_lt_of_le h.rp.lt h.rp.le
  have hc0 : ((c : Int) == 0) = false := by simp; omega
  have HLY : Hid (∀ (W : World) ao cap, Dr W base pb d c vc vs vw us → W.ownsRow w.heap.size 3 1 (.slice ao ns.length cap) ns.length (ns.map (Value.int .i64)) → Calls Tryz.prog 59 #[.pointer (some ⟨pb, 0, none⟩), .int .i64 c, .slice ao ns.length cap] W fun e w' => (∃ v, e = .returned v) ∧ Step base pb d' c W w') := hlay
  rw [← hn] at HPT
  generalize wordB c = wd at hrd HN
  clear h ht hp hr hn hl hf hk hlay
  go_enter Tryz.func32, Tryz.ntmps32
  go_wp2_with (first
    | (go_at_call 55; refine hrd.mono ?_; rintro e w1 ⟨ao, cap, rfl, own1, b1⟩; clear hrd; have q1 := HN.out w1 b1; have cp := HPT.out w1 b1; have D1 := H.out.below b1; have c4 := D1.c4; have f4 := D1.f4; have D2 := D1.last c; have q2 := HLY.out _ ao cap D2 (ownsRow_setCell_below own1 (a := ⟨pb, 4, none⟩) hpb _); clear own1)
    | (go_at_call 56; refine q1.mono ?_; rintro e w2 ⟨rfl, hw2⟩; subst hw2; clear q1)
    | (go_at_call 58; refine (hfo _).mono ?_; rintro e w3 ⟨rfl, hw3⟩; subst hw3; clear hfo)
    | (go_at_call 59; refine q2.mono ?_; rintro e w4 ⟨⟨v4, rfl⟩, hs4⟩; clear q2))
  go_ret
  exact ⟨rfl, hs4.1, ((Tk.of_below b1 H.out.rp.le H.out.rp.lt).trans (Tk.set _ _ _ _)).trans hs4.2⟩
/-- The cells of numbers that a line said. -/
theorem nums_at {W : World} {b0 : Nat} {ao : Option Addr} {cap n : Nat} {z : Int} {zs : List Int} (h : W.ownsRow b0 3 1 (.slice ao n cap) n ((z :: zs).map (Value.int .i64))) (hn : n = (z :: zs).length) : ∃ nb, ao = some ⟨nb, 0, none⟩ ∧ nb < W.heap.size ∧ ∀ (i : Nat) x, (z :: zs)[i]? = some x → W.cell? ⟨nb, 0 + i, none⟩ = some (.int .i64 x) := by
  rcases h.2 with ⟨h1, h0⟩ | ⟨g, c', cur, h1, _⟩
  · rw [hn] at h0; simp at h0
  · injection h1 with h2 h3 h4
    subst h2
    subst h4
    refine ⟨g, rfl, (h.lt g rfl).2, fun i x hx => ?_⟩
    rw [Nat.zero_add, h.cellAt i (by have := (List.getElem?_eq_some_iff.1 hx).1; rw [hn]; omega)]
    rw [List.getElem?_map, hx]
    rfl
end
theorem take_any (base pb : Nat) (d : PD) (k : Nat) (vc vs vw : Value) (us : List Value) (s : ByteArray) (w : World) (h : Dr w base pb d k vc vs vw us) (hk : Kept k d) (ht : Tabs2 w) (hp : Parts w) (hl : s.size ≤ 1099511627776) :
    Calls Tryz.prog 32 #[.pointer (some ⟨pb, 0, none⟩), .string s] w (Took base pb d k (actB k s.data.toList) w) := by
  cases hr : readB s.data.toList with
  | none =>
    rw [actB_unread hr]
    exact take_unread base pb d k vc vs vw us s w h ht hl hr
  | some x =>
    obtain ⟨p, ns⟩ := x
    rcases kind_cases p with h0 | ⟨c, h1, h2, _, rfl⟩
    · rw [actB_op hr h0]
      exact take_op base pb d k vc vs vw us s w h hk ht hp hl hr h0
    · by_cases hn : ns.length = numsN c
      · cases hf : follB k c with
        | false =>
          rw [actB_foll hk.le h1 h2 hr hf]
          exact take_foll base pb d k vc vs vw us s w c h1 h2 h hk ht hp hl hr hn hf
        | true =>
          have go := fun d' => take_lay base pb d k vc vs vw us s w c d' h1 h2 h hk ht hp hl hr hn hf
          rw [actB_word h1 h2 hr]
          have hc : c = 1 ∨ c = 2 ∨ c = 3 ∨ c = 4 := by omega
          have hkl := hk.le
          rcases hc with rfl | rfl | rfl | rfl
          · obtain ⟨x, rfl⟩ : ∃ x, ns = [x] := by
              match ns, hn with
              | [x], _ => exact ⟨x, rfl⟩
            have hk0 : k = 0 := by simpa [follB] using hf
            rw [if_pos rfl, show actF k [x] = some (.tick x) by simp [actF, hk0]]
            refine go _ (fun W ao cap D own => ?_)
            obtain ⟨nb, rfl, hlt, hc⟩ := nums_at own rfl
            exact lay_tick base pb d 1 vc vs vw us x nb 0 cap W D (hc 0 x rfl)
          · obtain ⟨x, y, z, rfl⟩ : ∃ x y z, ns = [x, y, z] := by
              match ns, hn with
              | [x, y, z], _ => exact ⟨x, y, z, rfl⟩
            have hk0 : 1 ≤ k ∧ k ≤ 2 := by simp [follB] at hf; omega
            rw [if_neg (by decide), if_pos rfl, show actS k [x, y, z] = some (.span (x, y, z)) by simp [actS, hk0]]
            refine go _ (fun W ao cap D own => ?_)
            obtain ⟨nb, rfl, hlt, hc⟩ := nums_at own rfl
            refine lay_span base pb d 2 vc vs vw us (x, y, z) nb 0 cap W D ⟨by omega, fun e => by omega, hk.spans, hk.wires, hk.code, hk.ops⟩ hlt (fun wm w1 bm gm => cells_kept ((Below.refl _ W).drew.trans bm) gm (fun e => ?_) hlt) (hc 0 x rfl) (hc 1 y rfl) (hc 2 z rfl)
            rcases own_apart (by decide) D.rp.spans own with h3 | h3
            · rw [h3] at e; cases e
            · exact h3 e
          · obtain ⟨x, y, z, t, rfl⟩ : ∃ x y z t, ns = [x, y, z, t] := by
              match ns, hn with
              | [x, y, z, t], _ => exact ⟨x, y, z, t, rfl⟩
            have hk0 : 1 ≤ k ∧ k ≤ 3 := by simp [follB] at hf; omega
            rw [if_neg (by decide), if_neg (by decide), if_pos rfl, show actW k [x, y, z, t] = some (.wire (x, y, z, t)) by simp [actW, hk0]]
            refine go _ (fun W ao cap D own => ?_)
            obtain ⟨nb, rfl, hlt, hc⟩ := nums_at own rfl
            refine lay_wire base pb d 3 vc vs vw us (x, y, z, t) nb 0 cap W D ⟨by omega, fun e => by omega, hk.spans, hk.wires, hk.code, hk.ops⟩ hlt (fun wm w1 bm gm => cells_kept ((Below.refl _ W).drew.trans bm) gm (fun e => ?_) hlt) (hc 0 x rfl) (hc 1 y rfl) (hc 2 z rfl) (hc 3 t rfl)
            rcases own_apart (by decide) D.rp.wires own with h3 | h3
            · rw [h3] at e; cases e
            · exact h3 e
          · obtain rfl : ns = [] := List.eq_nil_of_length_eq_zero hn
            have hk0 : 1 ≤ k := by simp [follB] at hf; omega
            rw [if_neg (by decide), if_neg (by decide), if_neg (by decide), show actR k [] = some .room by simp [actR, hk0]]
            refine go _ (fun W ao cap D own => ?_)
            exact lay_room base pb d 4 vc vs vw _ us W D hk.code
      · rw [actB_len h1 h2 hr hn]
        exact take_long base pb d k vc vs vw us s w c h1 h2 h ht hp hl hr hn
end Go.Proofs.YtamnfadngbbaeacGreatDoor
