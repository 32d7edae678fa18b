/-
  KerTime, KerGT, SplL, SplOpen, TabM, GUse, TabC, TKTwo, TWhole, TbKern, TbNew, TbSmall, TbTick, TabG: joined into one text.
-/
import Derived.Test.YtfconbblnmbnpafDoorJa1
import Derived.Test.YtfconbblnmbnpafDoorJa8
import Derived.Test.YtfconbblnmbnpafDoorJa7
import Derived.Test.YtfconbblnmbnpafDoorPlAny
import Derived.Test.YtfconbblnmbnpafDoorJa3
import Derived.Test.YtfconbblnmbnpafDoorJa6
import Derived.Deep.CutRange
import Derived.Deep.RegionWith
import Derived.BigQuiet
import Derived.RangeFuncNested
import Derived.Test.YtfconbblnmbnpafDoorGNew
namespace Go.Proofs.YtfconbblnmbnpafDoor
open Go.RowKit

/-- What time it is. -/
def KerTime {G : World → Prop} (C : KerC G) : Prop := ∀ {w0 W p vc vs vw k kb F}, C.K w0 W p vc vs vw k kb F → Calls Tryd.prog 49 #[.pointer (some ⟨kb, 0, none⟩)] W fun e w' => e = .returned (.int .i64 k.time) ∧ ∃ n, w' = W.drewN n
end Go.Proofs.YtfconbblnmbnpafDoor
namespace Go.Proofs.YtfconbblnmbnpafDoor
open Go.RowKit

set_option maxRecDepth 100000 in
set_option maxHeartbeats 1000000 in
theorem gtime_any (p : PD) (k : KD) (kb base : Nat) (a : GW) (w : World) (h : GK w base p k kb a) :
    Calls Tryd.prog 49 #[.pointer (some ⟨kb, 0, none⟩)] w fun e w' => e = .returned (.int .i64 k.time) ∧ ∃ n, w' = w.drewN n := by
  have c5 := h.c5
  clear h
  go_enter Tryd.func49, Tryd.ntmps49
  go_wp2
  go_ret
  exact ⟨rfl, 0, rfl⟩
theorem gker_time {G : World → Prop} (hG : ∀ w, G w → Forms w) (hall : ∀ w w', G w → Below w.heap.size w w' → G w') : KerTime (gker hG hall) := fun {_ W p _ _ _ k kb _} ⟨a, h, _, _⟩ => gtime_any p k kb _ a W h
end Go.Proofs.YtfconbblnmbnpafDoor
namespace Go.Proofs.YtfconbblnmbnpafDoor
open Go.RowKit

/-- Lists of spans that can be read. -/
def Spl (w : World) (v : Value) (ls : List (List S3)) : Prop :=
  (ls = [] ∧ ∃ ao cap, v = .slice ao 0 cap) ∨ ∃ b off cap, v = .slice (some ⟨b, off, none⟩) ls.length cap ∧ ls.length ≤ cap ∧ b < w.heap.size ∧ ∀ (i : Nat) l, ls[i]? = some l → ∃ u, w.cell? ⟨b, off + i, none⟩ = some u ∧ Sps w u l
theorem Spl.all {w w' : World} {v : Value} {ls : List (List S3)} (h : Spl w v ls) (hb : Below w.heap.size w w') : Spl w' v ls := by
  rcases h with h | ⟨b, off, cap, rfl, hcap, hlt, hc⟩
  · exact Or.inl h
  · refine Or.inr ⟨b, off, cap, rfl, hcap, Nat.lt_of_lt_of_le hlt hb.size, fun i c hi => ?_⟩
    obtain ⟨u, h1, h2⟩ := hc i c hi
    exact ⟨u, (hb.cell (p := ⟨b, _, none⟩) hlt).trans h1, h2.all hb⟩
theorem Spl.form {w : World} {v : Value} {ls : List (List S3)} (h : Spl w v ls) : ∃ ao cap, v = .slice ao ls.length cap := by
  rcases h with ⟨rfl, ao, cap, rfl⟩ | ⟨b, off, cap, rfl, _⟩
  · exact ⟨ao, cap, rfl⟩
  · exact ⟨_, cap, rfl⟩
theorem Spl.at {w : World} {ao : Option Addr} {cap : Nat} {ls : List (List S3)} (h : Spl w (.slice ao ls.length cap) ls) {i : Nat} (hi : i < ls.length) : ∃ b off u g l, ao = some ⟨b, off, none⟩ ∧ b < w.heap.size ∧ ls[i]? = some l ∧ w.cell? ⟨b, off + i, none⟩ = some (.slice u l.length g) ∧ Sps w (.slice u l.length g) l := by
  rcases h with ⟨rfl, _⟩ | ⟨b, off, cap', e, _, hlt, hc⟩
  · simp at hi
  · injection e with e1
    obtain ⟨u, h1, h2⟩ := hc i _ (List.getElem?_eq_getElem hi)
    obtain ⟨ua, uc, rfl⟩ := h2.form
    exact ⟨b, off, ua, uc, _, e1, hlt, List.getElem?_eq_getElem hi, h1, h2⟩
end Go.Proofs.YtfconbblnmbnpafDoor
namespace Go.Proofs.YtfconbblnmbnpafDoor
open Go.ChangeShapes Go.WideShapes Go.ChangeAt Go.WideElems Go.RowKit Go.Deep

theorem pcSps : Tryd.prog.cellsOf 23 = 1 := by kernel_rfl
section
variable {H : Type} {enc : TypeId × Value → H} {W : World} {base : Nat} {sp : Nat → Bool} {held : Bool}
set_option maxRecDepth 100000 in
theorem pk_spl (n : Nat) (cs : List Value) (x : DataW H × List MemPlace) (h : DataW.trod enc Tryd.prog W base sp held n 72 cs = some x) : ∃ l : List (List S3), ∃ u, cs = [u] ∧ Spl W u l := by
  obtain ⟨a, len, cap, rfl, hr⟩ := pk_slice (α := List S3) Tryd.underlying72 pcSps (by decide) (fun cs l => ∃ u, cs = [u] ∧ Sps W u l) pk_sps h
  rcases hr with rfl | ⟨b, off, rfl, hcap, hlt, l, rfl, hl⟩
  · exact ⟨[], _, rfl, Or.inl ⟨rfl, _, _, rfl⟩⟩
  · refine ⟨l, _, rfl, Or.inr ⟨b, off, cap, rfl, hcap, hlt, fun i c hc => ?_⟩⟩
    obtain ⟨us, _, ⟨u, rfl, hu⟩, hc⟩ := hl i c hc
    have := hc 0 (by omega)
    exact ⟨u, by simpa using this, hu⟩
set_option maxRecDepth 100000 in
/-- Lists of spans that came in. -/
theorem open_spl {b0 : Nat} {r : Reach} {v : Value} {d : DataW H} {p : List MemPlace} (hv : Value.okWide Tryd.prog W r b0 72 v)
    (h : DataW.Trod enc Tryd.prog W base sp held 72 v d p) : ∃ ll : List (List S3), Spl W v ll := by
  obtain ⟨a0, len0, cap0, rfl⟩ := okWide_slice Tryd.underlying72 hv
  obtain ⟨fuel, hf⟩ := h
  obtain ⟨l, u, hu, hs⟩ := pk_spl _ _ _ hf
  simp [Value.cells] at hu
  subst hu
  exact ⟨l, hs⟩
theorem pk_in (n : Nat) (cs : List Value) (x : DataW H × List MemPlace) (h : DataW.trod enc Tryd.prog W base sp held n 3 cs = some x) : ∃ o : Int, cs = [.int .i64 o] ∧ o ≤ 9223372036854775807 := by
  obtain ⟨n, e0, _, hw⟩ := DataW.trod_int Tryd.underlying3 h
  refine ⟨n, e0, ?_⟩
  have hw' : (decide (IntKind.i64.min ≤ n) && decide (n ≤ IntKind.i64.max)) = true := hw
  rw [Bool.and_eq_true, decide_eq_true_eq, decide_eq_true_eq] at hw'
  have e : IntKind.i64.max = 9223372036854775807 := by decide
  omega
set_option maxRecDepth 100000 in
/-- Numbers that came in, each an int. -/
theorem open_stp_in {b0 : Nat} {r : Reach} {v : Value} {d : DataW H} {p : List MemPlace} (hv : Value.okWide Tryd.prog W r b0 43 v)
    (h : DataW.Trod enc Tryd.prog W base sp held 43 v d p) : ∃ l : List Int, Stp W v l ∧ ∀ x ∈ l, x ≤ 9223372036854775807 := by
  obtain ⟨a0, len0, cap0, rfl⟩ := okWide_slice Tryd.underlying43 hv
  obtain ⟨fuel, hf⟩ := h
  obtain ⟨a, len, cap, hu, hr⟩ := pk_slice (α := Int) Tryd.underlying43 pcInt (by decide) (fun cs o => cs = [.int .i64 o] ∧ o ≤ 9223372036854775807) pk_in hf
  simp [Value.cells] at hu
  obtain ⟨rfl, rfl, rfl⟩ := hu
  rcases hr with rfl | ⟨b, off, rfl, _, hlt, l, rfl, hl⟩
  · exact ⟨[], Or.inl ⟨rfl, _, _, rfl⟩, fun x hx => (by cases hx)⟩
  · refine ⟨l, Or.inr ⟨b, off, _, rfl, hlt, fun i o ho => ?_⟩, fun x hx => ?_⟩
    · obtain ⟨us, _, ⟨rfl, _⟩, hc⟩ := hl i o ho
      have := hc 0 (by omega)
      simpa using this
    · obtain ⟨i, hi⟩ := List.mem_iff_getElem?.1 hx
      obtain ⟨us, _, ⟨_, h2⟩, _⟩ := hl i x hi
      exact h2
end
end Go.Proofs.YtfconbblnmbnpafDoor
namespace Go.Proofs.YtfconbblnmbnpafDoor

/-- A plan with other spans. -/
def withS (p : PD) (sp : List S3) : PD := ⟨p.code, p.ticks, sp, p.wires⟩
theorem withS_self (p : PD) : withS p p.spans = p := rfl
/-- A kernel, which list counts in this frame, and which one was asked last. -/
structure TbD where
  k : KD
  now : Nat
  next : Nat
/-- What is wrong with a plan and its lists. -/
def listsE (p : PD) : List (List S3) → Int
  | [] => 0
  | s :: l => if plchk (withS p s) = 0 then listsE p l else plchk (withS p s)
def tabE (p : PD) (ls : List (List S3)) : Int := if 4 < ls.length then 4 else if ls.length = 0 then 5 else listsE p ls
theorem listsE_zero {p : PD} : ∀ {ls : List (List S3)}, listsE p ls = 0 → ∀ s ∈ ls, plchk (withS p s) = 0
  | [], _, s, hs => by cases hs
  | a :: l, h, s, hs => by
    unfold listsE at h
    by_cases h1 : plchk (withS p a) = 0
    · rw [if_pos h1] at h
      rcases List.mem_cons.1 hs with rfl | h2
      · exact h1
      · exact listsE_zero h s h2
    · rw [if_neg h1] at h
      exact absurd h h1
theorem tabE_zero {p : PD} {ls : List (List S3)} (h : tabE p ls = 0) : ls.length ≤ 4 ∧ 0 < ls.length ∧ ∀ s ∈ ls, plchk (withS p s) = 0 := by
  unfold tabE at h
  split at h
  · omega
  · split at h
    · omega
    · exact ⟨by omega, by omega, listsE_zero h⟩
def newT (p : PD) : TbD := ⟨newK p, 0, 0⟩
/-- Which counts at the next tick. -/
def countT (p : PD) (d : TbD) : Nat := if d.k.time % p.ticks = 0 then d.next else d.now
/-- The spans that count at the next tick. -/
def spanT (p : PD) (ls : List (List S3)) (d : TbD) : List S3 := ls.getD (countT p d) []
def tickT (p : PD) (ls : List (List S3)) (d : TbD) : TbD := ⟨(tickK p (spanT p ls d) d.k).1, countT p d, d.next⟩
def evT (p : PD) (ls : List (List S3)) (d : TbD) : Int × Int × Int × Int := (tickK p (spanT p ls d) d.k).2
def askE (ls : List (List S3)) (i : Int) : Int := if i < 0 ∨ (ls.length : Int) ≤ i then 1 else 0
def askT (ls : List (List S3)) (d : TbD) (i : Int) : TbD := if askE ls i = 0 then ⟨d.k, d.now, i.toNat⟩ else d
structure TOk (p : PD) (ls : List (List S3)) (d : TbD) : Prop where
  k : KOk p d.k
  now : d.now < ls.length
  next : d.next < ls.length
theorem KOk.withS {p : PD} {k : KD} (h : KOk p k) (sp : List S3) : KOk (withS p sp) k := ⟨h.rl, h.ll, h.rooms, h.lines, h.lost, h.time⟩
theorem KOk.withS' {p : PD} {k : KD} {sp : List S3} (h : KOk (Go.Proofs.YtfconbblnmbnpafDoor.withS p sp) k) : KOk p k := ⟨h.rl, h.ll, h.rooms, h.lines, h.lost, h.time⟩
theorem countT_lt {p : PD} {ls : List (List S3)} {d : TbD} (h : TOk p ls d) : countT p d < ls.length := by
  unfold countT
  split
  · exact h.next
  · exact h.now
theorem spanT_mem {p : PD} {ls : List (List S3)} {d : TbD} (h : TOk p ls d) : ls[countT p d]? = some (spanT p ls d) ∧ spanT p ls d ∈ ls := by
  have hlt := countT_lt h
  have e : ls[countT p d]? = some ls[countT p d] := List.getElem?_eq_getElem hlt
  have e2 : spanT p ls d = ls[countT p d] := by simp [spanT, List.getD, e]
  rw [e2]
  exact ⟨e, List.getElem_mem hlt⟩
theorem spanT_right {p : PD} {ls : List (List S3)} {d : TbD} (hz : tabE p ls = 0) (h : TOk p ls d) : plchk (withS p (spanT p ls d)) = 0 := (tabE_zero hz).2.2 _ (spanT_mem h).2
theorem newT_ok {p : PD} {ls : List (List S3)} (hz : tabE p ls = 0) : TOk p ls (newT p) := by
  obtain ⟨_, h2, h3⟩ := tabE_zero hz
  have hm : ls[0] ∈ ls := List.getElem_mem h2
  have h4 : KOk (withS p ls[0]) (newK (withS p ls[0])) := new_ok (h3 _ hm)
  exact ⟨KOk.withS' (p := p) (sp := ls[0]) (k := newK p) ⟨h4.rl, h4.ll, h4.rooms, h4.lines, h4.lost, h4.time⟩, h2, h2⟩
theorem tickT_ok {p : PD} {ls : List (List S3)} {d : TbD} (hz : tabE p ls = 0) (h : TOk p ls d) : TOk p ls (tickT p ls d) := by
  have h1 : KOk (withS p (spanT p ls d)) (tickK (withS p (spanT p ls d)) (withS p (spanT p ls d)).spans d.k).1 := tick_ok (spanT_right hz h) (h.k.withS _)
  have h2 : KOk p (tickK p (spanT p ls d) d.k).1 := ⟨h1.rl, h1.ll, h1.rooms, h1.lines, h1.lost, h1.time⟩
  exact ⟨h2, countT_lt h, h.next⟩
theorem askT_ok {p : PD} {ls : List (List S3)} {d : TbD} (h : TOk p ls d) (i : Int) : TOk p ls (askT ls d i) := by
  unfold askT
  split
  · rename_i h1
    unfold askE at h1
    split at h1
    · omega
    · exact ⟨h.k, h.now, by show i.toNat < ls.length; omega⟩
  · exact h
theorem tickT_time (p : PD) (ls : List (List S3)) (d : TbD) : (tickT p ls d).k.time = d.k.time + 1 := tick_time _ _ _
theorem askT_k (ls : List (List S3)) (d : TbD) (i : Int) : (askT ls d i).k = d.k ∧ (askT ls d i).now = d.now := by
  unfold askT
  split <;> exact ⟨rfl, rfl⟩
theorem newT_count (p : PD) : countT p (newT p) = 0 := by
  unfold countT newT
  simp
/-- Within a frame the list that counts stays. -/
theorem count_stays {p : PD} {ls : List (List S3)} {d : TbD} (h : (tickT p ls d).k.time % p.ticks ≠ 0) : countT p (tickT p ls d) = countT p d := by
  unfold countT at *
  rw [if_neg h]
  rfl
theorem count_asked {p : PD} {ls : List (List S3)} {d : TbD} (i : Int) (h : d.k.time % p.ticks ≠ 0) : countT p (askT ls d i) = d.now := by
  obtain ⟨h1, h2⟩ := askT_k ls d i
  unfold countT
  rw [h1, if_neg h, h2]
theorem count_within {p : PD} {d : TbD} (h : d.k.time % p.ticks ≠ 0) : countT p d = d.now := by
  unfold countT
  rw [if_neg h]
theorem evT_tick {p : PD} {ls : List (List S3)} {d : TbD} : (evT p ls d).1 = d.k.time := by
  unfold evT tickK
  simp only
  split <;> rfl
end Go.Proofs.YtfconbblnmbnpafDoor
namespace Go.Proofs.YtfconbblnmbnpafDoor
open Go.RowKit

/-- A span's room is not there. -/
def notThere (n : Nat) (s : S3) : Bool := !(decide (0 ≤ s.2.2) && decide (s.2.2 < (n : Int)))
set_option maxRecDepth 100000 in
set_option maxHeartbeats 1000000 in
theorem usenot_any (s : S3) (bb kb n rc : Nat) (ra : Option Addr) (w : World) (h0 : w.cell? ⟨bb, 0, none⟩ = some (.pointer (some ⟨kb, 0, none⟩))) (h3 : w.cell? ⟨kb, 3, none⟩ = some (.slice ra n rc)) :
    Calls Tryd.prog 93 #[.agg #[.int .i64 s.1, .int .i64 s.2.1, .int .i64 s.2.2], .pointer (some ⟨bb, 0, none⟩)] w fun e w' => e = .returned (.bool (notThere n s)) ∧ Below w.heap.size w w' := by
  have hn0 := World.new_ne w ⟨bb, 0, none⟩ h0
  have hn3 := World.new_ne w ⟨kb, 3, none⟩ h3
  obtain ⟨a, b, r⟩ := s
  unfold notThere
  simp only
  have HB : Hid (∀ W, Calls Tryd.prog 72 #[.int .i64 r, .int .i64 n] W fun e w' => e = .returned (.bool (decide (0 ≤ r) && decide (r < (n : Int)))) ∧ w' = W) := fun W => kbelow_any r n W
  generalize (decide (0 ≤ r) && decide (r < (n : Int))) = q at HB ⊢
  go_enter Tryd.func93, Tryd.ntmps93
  go_upto_region 1 with fail
  have hA : Below w.heap.size w (w.alloc (.cells #[.int .i64 a, .int .i64 b, .int .i64 r] 59)) := (Below.refl _ _).alloc (Nat.le_refl _) _
  have k0 := (hA.cell (p := ⟨bb, 0, none⟩) (wlt h0)).trans h0
  have k3 := (hA.cell (p := ⟨kb, 3, none⟩) (wlt h3)).trans h3
  have kr : (w.alloc (.cells #[.int .i64 a, .int .i64 b, .int .i64 r] 59)).cell? ⟨w.heap.size, 2, none⟩ = some (.int .i64 r) := by simp
  generalize w.alloc (.cells #[.int .i64 a, .int .i64 b, .int .i64 r] 59) = W1 at *
  go_quiet ((go_at_call 72; exact Calls.quiet_of_same (HB.out _)))
  go_wp2_with fail
  go_ret
  exact ⟨rfl, below_dN hA _⟩
set_option maxRecDepth 100000 in
set_option maxHeartbeats 2000000 in
theorem idx_use (l : List S3) (P : S3 → Bool) (b off cap rb : Nat) (w : World) (hlen : l.length ≤ 12) (hlt : b < w.heap.size) (hc : SpC w b off l)
    (hcl : ∀ W, Below w.heap.size w W → ∀ o ∈ l, Calls Tryd.prog 93 #[.agg #[.int .i64 o.1, .int .i64 o.2.1, .int .i64 o.2.2], .pointer (some ⟨rb, 0, none⟩)] W fun e w' => e = .returned (.bool (P o)) ∧ Below W.heap.size W w') :
    Calls Tryd.prog 95 #[.slice (some ⟨b, off, none⟩) l.length cap, .func (.func 93) #[] #[.pointer (some ⟨rb, 0, none⟩)]] w fun e w' =>
      (∃ r : Int, e = .returned (.int .i64 r) ∧ decide (0 ≤ r) = l.any P) ∧ Below w.heap.size w w' := by
  have HCL : Hid (∀ W, Below w.heap.size w W → ∀ o ∈ l, Calls Tryd.prog 93 #[.agg #[.int .i64 o.1, .int .i64 o.2.1, .int .i64 o.2.2], .pointer (some ⟨rb, 0, none⟩)] W fun e w' => e = .returned (.bool (P o)) ∧ Below W.heap.size W w') := hcl
  have HC : Hid (SpC w b off l) := hc
  clear hcl hc
  go_enter Tryd.func95, Tryd.ntmps95
  go_wp2
  go_loopw [8] (fun i wr => ∃ k : Nat, k ≤ l.length ∧ i = .int .i64 k ∧ Hid (∀ (j : Nat) x, j < k → l[j]? = some x → P x = false) ∧ Below w.heap.size w wr) (fun i _ => l.length - (intOf i).toNat)
  case atStart => exact ⟨0, Nat.zero_le _, rfl, fun j x hj => by omega, Below.refl _ _⟩
  case round =>
    obtain ⟨k, hk, rfl, Hall, hb⟩ := hrel
    by_cases hkl : k < l.length
    · obtain ⟨o, ho⟩ : ∃ o, l[k]? = some o := ⟨l[k], List.getElem?_eq_getElem hkl⟩
      have HO : Hid (l[k]? = some o) := ho
      obtain ⟨c0, c1, c2⟩ := HC.out.below hb hlt k o ho
      have hon := HCL.out wr hb o (List.mem_of_getElem? ho)
      clear ho
      cases hok : P o with
      | false =>
        have HN : Hid (P o = false) := hok
        rw [hok] at hon
        clear hok
        go_wp2_with (go_at_call 93; refine hon.mono ?_; rintro e w1 ⟨rfl, b1⟩; clear hon)
        go_roundw
        case rel => exact ⟨k + 1, by omega, by go_num, upto_next Hall.out HO.out HN.out, hb.trans (b1.mono hb.size)⟩
        case measure => simp [intOf]; omega
      | true =>
        have HF : Hid (l.any P = true) := cany_hit HO.out hok
        rw [hok] at hon
        clear hok
        go_wp2_with (go_at_call 93; refine hon.mono ?_; rintro e w1 ⟨rfl, b1⟩; clear hon)
        go_ret
        exact ⟨⟨_, rfl, by rw [HF.out]; simp⟩, hb.trans (b1.mono hb.size)⟩
    · have HF : Hid (l.any P = false) := cany_miss (fun i x hi hx => Hall.out i x (by omega) hx)
      go_wp2
      go_ret
      exact ⟨⟨_, rfl, by rw [HF.out]; simp⟩, hb⟩
set_option maxRecDepth 100000 in
set_option maxHeartbeats 2000000 in
theorem con_use (l : List S3) (P : S3 → Bool) (v : Value) (rb : Nat) (w : World) (hlen : l.length ≤ 12) (hv : Sps w v l)
    (hcl : ∀ W, Below w.heap.size w W → ∀ o ∈ l, Calls Tryd.prog 93 #[.agg #[.int .i64 o.1, .int .i64 o.2.1, .int .i64 o.2.2], .pointer (some ⟨rb, 0, none⟩)] W fun e w' => e = .returned (.bool (P o)) ∧ Below W.heap.size W w') :
    Calls Tryd.prog 76 #[v, .func (.func 93) #[] #[.pointer (some ⟨rb, 0, none⟩)]] w fun e w' => e = .returned (.bool (l.any P)) ∧ Below w.heap.size w w' := by
  have h : ∃ ao n cap, v = .slice ao n cap ∧ Calls Tryd.prog 95 #[.slice ao n cap, .func (.func 93) #[] #[.pointer (some ⟨rb, 0, none⟩)]] w fun e w' => (∃ r : Int, e = .returned (.int .i64 r) ∧ decide (0 ≤ r) = l.any P) ∧ Below w.heap.size w w' := by
    rcases hv with ⟨rfl, ao, cap, rfl⟩ | ⟨b, off, cap, rfl, _, hlt, hc⟩
    · refine ⟨ao, 0, cap, rfl, (idx_spn_nil _ ao cap w).mono ?_⟩
      rintro e w' ⟨rfl, hb⟩
      exact ⟨⟨_, rfl, by simp⟩, hb⟩
    · exact ⟨_, _, cap, rfl, idx_use l P b off cap rb w hlen hlt hc hcl⟩
  obtain ⟨ao, n, cap, rfl, h⟩ := h
  clear hv hcl
  go_enter Tryd.func76, Tryd.ntmps76
  go_wp2_with (go_at_call 95; refine h.mono ?_; rintro e w1 ⟨⟨r, rfl, hr⟩, bb⟩; clear h; have HR : Hid (decide (0 ≤ r) = l.any P) := hr; clear hr)
  go_ret
  exact ⟨ret_bool HR.out, bb⟩
/-- Spans that fit name rooms that are there. -/
theorem fit_there {p : PD} (h : plchk p = 0) : p.spans.any (notThere p.code.length) = false := by
  obtain ⟨_, _, h3, _, h5, _⟩ := plchk_zero h
  obtain ⟨_, _, _, h6, _⟩ := fchk_zero h3
  rw [List.any_eq_false] at h5 ⊢
  intro s hs
  have h7 := h6 s hs
  have h8 := h5 s hs
  unfold spOk at h7
  unfold spanOut at h8
  simp only [decide_eq_true_eq] at h7 h8
  unfold notThere
  simp only [Bool.not_eq_true', Bool.not_eq_false, Bool.and_eq_true, decide_eq_true_eq]
  omega
/-- Other spans are laid into it. -/
theorem GK.use {w w3 : World} {base : Nat} {p : PD} {k : KD} {kb : Nat} {a : GW} {sp : List S3} {sv : Value} (h : GK w base p k kb a) (hbw : base ≤ w.heap.size) (hb : Below w.heap.size w w3) (hown : w3.ownsRow w.heap.size 59 3 sv sp.length (spCells sp)) :
    GK (w3.setCell ⟨kb, 2, none⟩ sv) base (withS p sp) k kb { a with sv := sv, F0 := sv.ownBlock.toList ++ a.F0 } := by
  have h3 := h.all hb
  have hs := hb.size
  have ht : KTouch [kb] w3 (w3.setCell ⟨kb, 2, none⟩ sv) := KTouch.set w3 (by simp) 2 _
  have hblk : ∀ g, g ≠ kb → (w3.setCell ⟨kb, 2, none⟩ sv).heap[g]? = w3.heap[g]? := fun g hg => Below.heap_setCell _ _ _ _ hg
  have b2 : (w3.setCell ⟨kb, 2, none⟩ sv).heap[a.rb]? = w3.heap[a.rb]? := hblk _ (Ne.symm h.ap.1)
  have hkb := h.lt.1
  have hrb := h.lt.2.1
  have hsz : (w3.setCell ⟨kb, 2, none⟩ sv).heap.size = w3.heap.size := by simp
  have hnew : ∀ g, sv.ownBlock = some g → w.heap.size ≤ g ∧ g < w3.heap.size := fun g hg => hown.lt g hg
  have hF : ∀ g ∈ sv.ownBlock.toList ++ a.F0, (sv.ownBlock = some g) ∨ g ∈ a.F0 := fun g hg => (List.mem_append.1 hg).imp ofOwn id
  have hown9 : (w3.setCell ⟨kb, 2, none⟩ sv).ownsRow w.heap.size 59 3 sv sp.length (spCells sp) := own_block hown (fun g hg => hblk g (by have := (hnew g hg).1; omega))
  refine ⟨by simpa [go_sem] using h3.c0, by simpa [go_sem, withS] using h3.c1, by simp [go_sem, h3.c2], by simpa [go_sem] using h3.c3, by simpa [go_sem] using h3.c4, by simpa [go_sem] using h3.c5, by simpa using h3.f5, by simpa using h3.f2, fun w' hs' hb' => ⟨?_, ?_⟩, fun i s hi => (h3.rooms i s hi).block b2, fun o => by simpa using h3.rf o, h3.lines.frame ht (fun m hm => ?_), fun g hg => ?_, ⟨by rw [hsz]; omega, by rw [hsz]; show a.rb < _; omega, fun g hg => ?_⟩, h.ap, ⟨fun hm => ?_, fun hm => ?_, fun g hg => ?_⟩⟩
  · refine (h3.src w' (by omega) (fun g hg => ?_)).1
    exact (hb' g (List.mem_append_right _ hg)).trans (hblk g (fun e => h.ap0.1 (by rw [← e]; exact hg)))
  · exact sps_of_own (own_block hown9 (fun g hg => hb' g (List.mem_append_left _ (by simp [hg]))))
  · rw [List.mem_singleton] at hm
    subst hm
    exact h.ap.2.1
  · unfold GW.F at hg
    simp only [List.mem_cons, List.mem_append] at hg
    have hold : ∀ g, g ∈ a.F kb → base ≤ g := h.ge
    unfold GW.F at hold
    simp only [List.mem_cons, List.mem_append] at hold
    rcases hg with e | e | (e | e) | e
    · exact hold g (Or.inl e)
    · exact hold g (Or.inr (Or.inl e))
    · have := (hnew g (ofOwn e)).1
      omega
    · exact hold g (Or.inr (Or.inr (Or.inl e)))
    · exact hold g (Or.inr (Or.inr (Or.inr e)))
  · rw [hsz]
    rcases hF g hg with e | e
    · exact (hnew g e).2
    · have := h.lt.2.2 g e
      omega
  · rcases hF kb hm with e | e
    · have := (hnew kb e).1
      omega
    · exact h.ap0.1 e
  · rcases hF a.rb hm with e | e
    · have := (hnew a.rb e).1
      omega
    · exact h.ap0.2.1 e
  · rcases hF g hg with e | e
    · intro hm
      have h1 := h.lines.flt g hm
      have h2 := (hnew g e).1
      omega
    · exact h.ap0.2.2 g e
set_option maxRecDepth 100000 in
set_option maxHeartbeats 8000000 in
theorem guse_ok (p : PD) (k : KD) (kb base : Nat) (a : GW) (sp : List S3) (v : Value) (w : World) (h : GK w base p k kb a) (hbw : base ≤ w.heap.size) (hv : Sps w v sp) (hp : plchk (withS p sp) = 0) (hk : KOk p k) :
    Calls Tryd.prog 73 #[.pointer (some ⟨kb, 0, none⟩), v] w fun e w' => e = .returned .nilIface ∧ ∃ a', GK w' base (withS p sp) k kb a' ∧ KTouch [kb] w w' ∧ ∀ g ∈ a'.F kb, g ∈ a.F kb ∨ w.heap.size ≤ g := by
  obtain ⟨sa, sc, rfl⟩ := hv.form
  have hfz : (fchk p.ticks sp).2 = 0 := (plchk_zero hp).2.2.1
  have hf0 : fchk p.ticks sp = (0, 0) := (fchk_zero hfz).2.2.2.2
  have hsl : sp.length ≤ 12 := (fchk_zero hfz).2.2.1
  have hany : sp.any (notThere k.rooms.length) = false := by rw [hk.rl]; exact fit_there hp
  have hA : Below w.heap.size w (w.alloc (.cells #[.pointer (some ⟨kb, 0, none⟩)] 63)) := (Below.refl _ _).alloc (Nat.le_refl _) _
  have hbox : (w.alloc (.cells #[.pointer (some ⟨kb, 0, none⟩)] 63)).cell? ⟨w.heap.size, 0, none⟩ = some (.pointer (some ⟨kb, 0, none⟩)) := by simp
  have hlt0 : w.heap.size < (w.alloc (.cells #[.pointer (some ⟨kb, 0, none⟩)] 63)).heap.size := by simp
  generalize hW1 : w.alloc (.cells #[.pointer (some ⟨kb, 0, none⟩)] 63) = W1 at hA hbox hlt0
  have HF : Hid (Calls Tryd.prog 52 #[.int .i64 p.ticks, .slice sa sp.length sc] W1 fun e w' => e = .returned (.tuple #[.int .i64 0, .nilIface]) ∧ Below W1.heap.size W1 w') := by
    have := fcheck_any p.ticks sp _ W1 (hv.all hA)
    rw [hf0] at this
    exact this
  have hkb := h.lt.1
  have HC : Hid (∀ W, Below W1.heap.size W1 W → Calls Tryd.prog 76 #[.slice sa sp.length sc, .func (.func 93) #[] #[.pointer (some ⟨w.heap.size, 0, none⟩)]] W fun e w' => e = .returned (.bool false) ∧ Below W.heap.size W w') := fun W hW => by
    have hwW := hA.trans (hW.mono hA.size)
    have := con_use sp (notThere k.rooms.length) _ w.heap.size W hsl (hv.all hwW) (fun W' hW' o _ => usenot_any o w.heap.size kb k.rooms.length a.rcap (some ⟨a.rb, 0, none⟩) W' ((hW'.cell (p := ⟨w.heap.size, 0, none⟩) (Nat.lt_of_lt_of_le hlt0 hW.size)).trans ((hW.cell (p := ⟨w.heap.size, 0, none⟩) hlt0).trans hbox)) ((h.all hwW).all hW').c3)
    rw [hany] at this
    exact this
  have HCl : Hid (∀ W, Below w.heap.size w W → Calls Tryd.prog 41 #[.slice sa sp.length sc] W fun e w' => ∃ ao n cap, e = .returned (.slice ao n cap) ∧ w'.ownsRow W.heap.size 59 3 (.slice ao n cap) sp.length (spCells sp) ∧ Below W.heap.size W w') := fun W hb => by
    refine (clone_sps sp _ W (hv.all hb) (by omega)).mono ?_
    rintro e w' ⟨v, rfl, h1, h2⟩
    obtain ⟨ao, n, cap, rfl⟩ := own_form h1
    exact ⟨ao, n, cap, rfl, h1, h2⟩
  have H : Hid (GK w base p k kb a) := h
  have c1 := (h.all hA).c1
  clear h hv hp hk hfz hf0 hany
  go_enter Tryd.func73, Tryd.ntmps73
  go_upto_region 1 with fail
  go_upto_region 7 with (first
    | (go_at_call 52; refine HF.out.mono ?_; rintro e w1 ⟨rfl, b1⟩)
    | (go_at_call 76; refine (HC.out w1 b1).mono ?_; rintro e w2 ⟨rfl, b2⟩))
  have hb2 : Below W1.heap.size W1 w2 := b1.trans (b2.mono b1.size)
  have hbw2 : Below w.heap.size w w2 := hA.trans (hb2.mono hA.size)
  have k0 : w2.cell? ⟨w.heap.size, 0, none⟩ = some (.pointer (some ⟨kb, 0, none⟩)) := (hb2.cell (p := ⟨w.heap.size, 0, none⟩) hlt0).trans hbox
  have hlt2 : w.heap.size < w2.heap.size := Nat.lt_of_lt_of_le hlt0 hb2.size
  clear HF HC b1 b2 hb2 c1 hbox hlt0 hW1 hA
  go_cut [25] from 25 to 29 (fun _ wx => ∃ w3 sv, Below w.heap.size w w3 ∧ w3.ownsRow w.heap.size 59 3 sv sp.length (spCells sp) ∧ wx = w3.setCell ⟨kb, 2, none⟩ sv)
  case first =>
    have bQ : Below w.heap.size w w2.drew := hbw2.drew
    have hkn : w.heap.size ≠ kb := by omega
    have kq : w2.drew.cell? ⟨w.heap.size, 0, none⟩ = some (.pointer (some ⟨kb, 0, none⟩)) := k0
    go_region_held3 (fun w' => w'.cell? ⟨w.heap.size, 0, none⟩ = some (.pointer (some ⟨kb, 0, none⟩)))
      (first | exact kq | exact k3 | exact k4 _ | go_keep)
      (first
        | (go_at_call 41; refine (HCl.out _ bQ).mono ?_; rintro e w3 ⟨ao, n, cap, rfl, hown, b3⟩; have k3 : w3.cell? ⟨w.heap.size, 0, none⟩ = some (.pointer (some ⟨kb, 0, none⟩)) := (b3.cell (p := ⟨w.heap.size, 0, none⟩) hlt2).trans kq; have k4 : ∀ v, (w3.setCell ⟨kb, 2, none⟩ v).cell? ⟨w.heap.size, 0, none⟩ = some (.pointer (some ⟨kb, 0, none⟩)) := fun v => (World.cell?_of_block (w := w3) (a := ⟨w.heap.size, 0, none⟩) (Below.heap_setCell _ _ _ _ hkn)).trans k3; have hb3 := bQ.trans (b3.mono bQ.size); have c2 := (H.out.all hb3).c2; have f2 := (H.out.all hb3).f2))
    go_wp2_with fail
    go_meet
    case rel => exact ⟨w3, _, hb3, own_base hown bQ.size, rfl⟩
  case rest =>
  obtain ⟨w3, sv, hb3, hown, rfl⟩ := hcut
  have D := H.out.use hbw hb3 hown
  go_wp2
  go_ret
  refine ⟨rfl, _, D, (KTouch.of hb3).trans (KTouch.set w3 (by simp) 2 _), fun g hg => ?_⟩
  unfold GW.F at hg ⊢
  simp only [List.mem_cons, List.mem_append] at hg ⊢
  rcases hg with e | e | (e | e) | e
  · exact Or.inl (Or.inl e)
  · exact Or.inl (Or.inr (Or.inl e))
  · exact Or.inr (hown.lt g (ofOwn e)).1
  · exact Or.inl (Or.inr (Or.inr (Or.inl e)))
  · exact Or.inl (Or.inr (Or.inr (Or.inr e)))
end Go.Proofs.YtfconbblnmbnpafDoor
namespace Go.Proofs.YtfconbblnmbnpafDoor
open Go.RowKit

/-- What package tables does, in every world of a kind: K w0 w p ls d cb F: made in the world w0, of the plan p and the lists ls, tables lie at block cb; they are d, and all that they have lies in the blocks F. -/
structure TabC (G : World → Prop) where
  K : World → World → PD → List (List S3) → TbD → Nat → List Nat → Prop
  all : ∀ w w', G w → Below w.heap.size w w' → G w'
  since : ∀ {w0 w p ls d cb F}, K w0 w p ls d cb F → Below w0.heap.size w0 w
  ge : ∀ {w0 w p ls d cb F}, K w0 w p ls d cb F → ∀ g ∈ F, w0.heap.size ≤ g ∧ g < w.heap.size
  lower : ∀ {w1 w0 w p ls d cb F}, Below w1.heap.size w1 w0 → K w0 w p ls d cb F → K w1 w p ls d cb F
  frame : ∀ {w0 w w' p ls d cb F M}, K w0 w p ls d cb F → KTouch M w w' → (∀ m ∈ M, m ∉ F ∧ w0.heap.size ≤ m) → K w0 w' p ls d cb F
  new : ∀ (p : PD) (vc vs vw lv : Value) (ls : List (List S3)) (W : World), G W → Pln W vc vs vw p → Spl W lv ls → tabE p ls = 0 → Calls Tryd.prog 22 #[plV vc p.ticks vs vw, lv] W fun e w' => ∃ cb F, e = .returned (.tuple #[.pointer (some ⟨cb, 0, none⟩), .nilIface]) ∧ K W w' p ls (newT p) cb F
  no : ∀ (p : PD) (vc vs vw lv : Value) (ls : List (List S3)) (W : World), G W → Pln W vc vs vw p → Spl W lv ls → tabE p ls ≠ 0 → Calls Tryd.prog 22 #[plV vc p.ticks vs vw, lv] W fun e w' => ∃ x, e = .returned (.tuple #[.pointer x, wErr (tabE p ls)]) ∧ Below W.heap.size W w'
  ask : ∀ {w0 W p ls d cb F} (i : Int), K w0 W p ls d cb F → tabE p ls = 0 → TOk p ls d → Calls Tryd.prog 24 #[.pointer (some ⟨cb, 0, none⟩), .int .i64 i] W fun e w' => e = .returned (wErr (askE ls i)) ∧ ∃ F', K w0 w' p ls (askT ls d i) cb F' ∧ KTouch F W w' ∧ ∀ g ∈ F', g ∈ F ∨ W.heap.size ≤ g
  tick : ∀ {w0 W p ls d cb F}, G w0 → K w0 W p ls d cb F → tabE p ls = 0 → TOk p ls d → d.k.time < 100000000 → Calls Tryd.prog 23 #[.pointer (some ⟨cb, 0, none⟩)] W fun e w' => e = .returned (evA (evT p ls d)) ∧ ∃ F', K w0 w' p ls (tickT p ls d) cb F' ∧ KTouch F W w' ∧ ∀ g ∈ F', g ∈ F ∨ W.heap.size ≤ g
  now : ∀ {w0 W p ls d cb F}, K w0 W p ls d cb F → tabE p ls = 0 → TOk p ls d → Calls Tryd.prog 25 #[.pointer (some ⟨cb, 0, none⟩)] W fun e w' => e = .returned (.int .i64 (countT p d : Nat)) ∧ Below W.heap.size W w'
end Go.Proofs.YtfconbblnmbnpafDoor
namespace Go.Proofs.YtfconbblnmbnpafDoor
open Go.RowKit

/-- A block of the caller's own stays, and stays the caller's own. -/
theorem keepF {W w' : World} {F F' : List Nat} (tk : KTouch F W w') (hF : ∀ g ∈ F', g ∈ F ∨ W.heap.size ≤ g) : ∀ b, b < W.heap.size → b ∉ F → w'.heap[b]? = W.heap[b]? ∧ b ∉ F' := fun b hb hn => ⟨tk.block b hb hn, fun hm => by
  rcases hF b hm with h1 | h1
  · exact hn h1
  · omega⟩
/-- Neither has what the other one has. -/
structure TK {G : World → Prop} (C : TabC G) (D : KerC G) (w0 wr : World) (p : PD) (ls : List (List S3)) (q : PD) (vc vs vw : Value) (d : TbD) (k : KD) (cb : Nat) (F : List Nat) (kb : Nat) (H : List Nat) : Prop where
  T : C.K w0 wr p ls d cb F
  K : D.K w0 wr q vc vs vw k kb H
  ap : ∀ g ∈ F, g ∉ H
  ok : TOk p ls d
  okk : KOk q k
section
variable {G : World → Prop} {C : TabC G} {D : KerC G} {w0 wr w' W : World} {p q : PD} {ls : List (List S3)} {vc vs vw : Value} {d : TbD} {k : KD} {cb kb : Nat} {F H : List Nat}
theorem TK.all (h : TK C D w0 wr p ls q vc vs vw d k cb F kb H) (hb : Below wr.heap.size wr w') : TK C D w0 w' p ls q vc vs vw d k cb F kb H :=
  ⟨C.frame h.T (KTouch.of (M := []) hb) (by simp), D.frame h.K (KTouch.of (M := []) hb) (by simp), h.ap, h.ok, h.okk⟩
theorem TK.since (h : TK C D w0 wr p ls q vc vs vw d k cb F kb H) : Below w0.heap.size w0 wr := C.since h.T
/-- Blocks of the caller's own are written. -/
theorem TK.set (h : TK C D w0 wr p ls q vc vs vw d k cb F kb H) {M : List Nat} (ht : KTouch M wr w') (hM : ∀ m ∈ M, m ∉ F ∧ m ∉ H ∧ w0.heap.size ≤ m) : TK C D w0 w' p ls q vc vs vw d k cb F kb H :=
  ⟨C.frame h.T ht (fun m hm => ⟨(hM m hm).1, (hM m hm).2.2⟩), D.frame h.K ht (fun m hm => ⟨(hM m hm).2.1, (hM m hm).2.2⟩), h.ap, h.ok, h.okk⟩
/-- Tables are asked. -/
theorem tk_ask (hz : tabE p ls = 0) (i : Int) (h : TK C D w0 W p ls q vc vs vw d k cb F kb H) :
    Calls Tryd.prog 24 #[.pointer (some ⟨cb, 0, none⟩), .int .i64 i] W fun e w' => e = .returned (wErr (askE ls i)) ∧ ∃ F', TK C D w0 w' p ls q vc vs vw (askT ls d i) k cb F' kb H ∧ KTouch F W w' ∧ ∀ g ∈ F', g ∈ F ∨ W.heap.size ≤ g := by
  refine (C.ask i h.T hz h.ok).mono ?_
  rintro e w' ⟨rfl, F', hT, tk, hF⟩
  refine ⟨rfl, F', ⟨hT, D.frame h.K tk (fun m hm => ⟨h.ap m hm, (C.ge h.T m hm).1⟩), fun g hg hm => ?_, askT_ok h.ok i, h.okk⟩, tk, hF⟩
  rcases hF g hg with h1 | h1
  · exact h.ap g h1 hm
  · have := (D.ge h.K g hm).2
    omega
/-- A tick of both, the tables' first. -/
theorem tk_tick (hG : G w0) (hz : tabE p ls = 0) (hq : plchk q = 0) (ht : d.k.time < 100000000) (htk : k.time < 100000000) (h : TK C D w0 W p ls q vc vs vw d k cb F kb H) :
    Calls Tryd.prog 23 #[.pointer (some ⟨cb, 0, none⟩)] W fun e w2 => e = .returned (evA (evT p ls d)) ∧ W.heap.size ≤ w2.heap.size ∧
      ∀ w3, Below w2.heap.size w2 w3 → Calls Tryd.prog 20 #[.pointer (some ⟨kb, 0, none⟩)] w3 fun e w' => e = .returned (evA (tickK q q.spans k).2) ∧ ∃ F' H', TK C D w0 w' p ls q vc vs vw (tickT p ls d) (tickK q q.spans k).1 cb F' kb H' ∧ (KTouch (F ++ H) W w' ∧ KTouch H w3 w') ∧ ∀ g ∈ F' ++ H', g ∈ F ++ H ∨ W.heap.size ≤ g := by
  refine (C.tick hG h.T hz h.ok ht).mono ?_
  rintro e w2 ⟨rfl, F', hT, tk, hF⟩
  refine ⟨rfl, tk.size, fun w3 b3 => ?_⟩
  have hK3 := D.frame (D.frame h.K tk (fun m hm => ⟨h.ap m hm, (C.ge h.T m hm).1⟩)) (KTouch.of (M := []) b3) (by simp)
  have hT3 := C.frame hT (KTouch.of (M := []) b3) (by simp)
  have hs2 := tk.size
  have hs3 := b3.size
  refine (D.tick hG hK3 hq h.okk htk).mono ?_
  rintro e w' ⟨rfl, H', hK', tk', hH⟩
  have hFH : ∀ g ∈ F', g ∉ H := fun g hg hm => by
    rcases hF g hg with h1 | h1
    · exact h.ap g h1 hm
    · have := (D.ge h.K g hm).2
      omega
  refine ⟨rfl, F', H', ⟨C.frame hT3 tk' (fun m hm => ⟨fun hf => hFH m hf hm, (D.ge h.K m hm).1⟩), hK', fun g hg hm => ?_, tickT_ok hz h.ok, tick_ok hq h.okk⟩, ⟨((tk.trans (KTouch.of b3)).mono (fun m hm => List.mem_append.2 (Or.inl hm))).trans (tk'.mono (fun m hm => List.mem_append.2 (Or.inr hm))), tk'⟩, fun g hg => ?_⟩
  · rcases hH g hm with h1 | h1
    · exact hFH g hg h1
    · have := (C.ge hT3 g hg).2
      omega
  · rcases List.mem_append.1 hg with h1 | h1
    · rcases hF g h1 with h2 | h2
      · exact Or.inl (List.mem_append.2 (Or.inl h2))
      · exact Or.inr h2
    · rcases hH g h1 with h2 | h2
      · exact Or.inl (List.mem_append.2 (Or.inr h2))
      · exact Or.inr (by omega)
theorem TK.hlt (h : TK C D w0 wr p ls q vc vs vw d k cb F kb H) : ∀ g ∈ F ++ H, g < wr.heap.size := fun g hg => by
  rcases List.mem_append.1 hg with h1 | h1
  · exact (C.ge h.T g h1).2
  · exact (D.ge h.K g h1).2
theorem TK.hge (h : TK C D w0 wr p ls q vc vs vw d k cb F kb H) : ∀ g ∈ F ++ H, w0.heap.size ≤ g := fun g hg => by
  rcases List.mem_append.1 hg with h1 | h1
  · exact (C.ge h.T g h1).1
  · exact (D.ge h.K g h1).1
theorem tk_now (hz : tabE p ls = 0) (h : TK C D w0 W p ls q vc vs vw d k cb F kb H) :
    Calls Tryd.prog 25 #[.pointer (some ⟨cb, 0, none⟩)] W fun e w' => e = .returned (.int .i64 (countT p d : Nat)) ∧ Below W.heap.size W w' := C.now h.T hz h.ok
end
end Go.Proofs.YtfconbblnmbnpafDoor
namespace Go.Proofs.YtfconbblnmbnpafDoor
open Go.RowKit

/-- The law's own: a room that rests, a frame of two ticks, and two lists. -/
def toyT : PD := ⟨[[(10, 0, 0)]], 2, [], []⟩
def toyL : List (List S3) := [[], [(0, 2, 0)]]
def toyT0 : TbD := newT toyT
def toyT1 : TbD := tickT toyT toyL toyT0
def toyT2 : TbD := askT toyL toyT1 1
def toyT3 : TbD := tickT toyT toyL toyT2
def toyT4 : TbD := tickT toyT toyL toyT3
theorem toyT_e : tabE toyT toyL = 0 := by decide +kernel
theorem toyT_ev0 : evT toyT toyL toyT0 = (0, -1, 0, 0) := by decide +kernel
theorem toyT_ask : askE toyL 1 = 0 := by decide +kernel
theorem toyT_ev2 : evT toyT toyL toyT2 = (1, -1, 0, 0) := by decide +kernel
theorem toyT_ev3 : evT toyT toyL toyT3 = (2, 0, 0, 0) := by decide +kernel
theorem toyT_now : countT toyT toyT4 = 1 := by decide +kernel
theorem toyT_ok0 : TOk toyT toyL toyT0 := newT_ok toyT_e
theorem toyT_ok1 : TOk toyT toyL toyT1 := tickT_ok toyT_e toyT_ok0
theorem toyT_ok2 : TOk toyT toyL toyT2 := askT_ok toyT_ok1 1
theorem toyT_ok3 : TOk toyT toyL toyT3 := tickT_ok toyT_e toyT_ok2
theorem toyT_ok4 : TOk toyT toyL toyT4 := tickT_ok toyT_e toyT_ok3
theorem toyT_t0 : toyT0.k.time < 100000000 := by decide +kernel
theorem toyT_t2 : toyT2.k.time < 100000000 := by decide +kernel
theorem toyT_t3 : toyT3.k.time < 100000000 := by decide +kernel
/-- The law's own plan and lists, as they lie. -/
theorem toyT_pln (W : World) (n : Nat) (hn : n = W.heap.size) : Pln ((W.alloc (.cells #[.int .i64 10, .int .i64 0, .int .i64 0] 57)).alloc (.cells #[.slice (some ⟨n, 0, none⟩) 1 1] 36)) (.slice (some ⟨n + 1, 0, none⟩) 1 1) (.slice none 0 0) (.slice none 0 0) toyT := by
  subst hn
  refine ⟨Or.inr ⟨_, 0, 1, rfl, Nat.le_refl _, by simp, fun i c hi => ?_⟩, Or.inl ⟨rfl, _, _, rfl⟩, Or.inl ⟨rfl, _, _, rfl⟩⟩
  match i, hi with
  | 0, hi =>
    simp [toyT] at hi
    subst hi
    refine ⟨.slice (some ⟨W.heap.size, 0, none⟩) 1 1, by simp [go_sem], Or.inr ⟨W.heap.size, 0, 1, rfl, by simp; omega, fun j o ho => ?_⟩⟩
    match j, ho with
    | 0, ho => simp at ho; subst ho; simp [go_sem]
    | j + 1, ho => simp at ho
  | i + 1, hi => simp [toyT] at hi
theorem toyT_spl (W : World) (n : Nat) (hn : n = W.heap.size) : Spl ((W.alloc (.cells #[.int .i64 0, .int .i64 2, .int .i64 0] 59)).alloc (.cells #[.slice none 0 0, .slice (some ⟨n, 0, none⟩) 1 1] 23)) (.slice (some ⟨n + 1, 0, none⟩) 2 2) toyL := by
  subst hn
  refine Or.inr ⟨W.heap.size + 1, 0, 2, rfl, Nat.le_refl _, by simp, fun i l hi => ?_⟩
  match i, hi with
  | 0, hi =>
    simp [toyL] at hi
    subst hi
    exact ⟨.slice none 0 0, by simp [go_sem], Or.inl ⟨rfl, _, _, rfl⟩⟩
  | 1, hi =>
    simp [toyL] at hi
    subst hi
    refine ⟨.slice (some ⟨W.heap.size, 0, none⟩) 1 1, by simp [go_sem], Or.inr ⟨W.heap.size, 0, 1, rfl, Nat.le_refl _, by simp; omega, fun j o ho => ?_⟩⟩
    match j, ho with
    | 0, ho => simp at ho; subst ho; simp [go_sem]
    | j + 1, ho => simp at ho
  | i + 2, hi => simp [toyL] at hi
theorem list_zero {p : PD} {ls : List (List S3)} {d : TbD} {l0 : List S3} (h0 : d.now = 0) (h1 : d.next = 0) (hl : ls[0]? = some l0) : evT p ls d = (tickK (withS p l0) (withS p l0).spans d.k).2 ∧ (tickT p ls d).k = (tickK (withS p l0) (withS p l0).spans d.k).1 ∧ (tickT p ls d).now = 0 ∧ (tickT p ls d).next = 0 := by
  have hc : countT p d = 0 := by
    unfold countT
    rw [h0, h1, ite_self]
  have hs : spanT p ls d = l0 := by
    unfold spanT
    rw [hc]
    simp [List.getD, hl]
  refine ⟨by unfold evT; rw [hs]; rfl, by unfold tickT; rw [hs]; rfl, by unfold tickT; exact hc, h1⟩
set_option maxRecDepth 1000000 in
set_option maxHeartbeats 16000000 in
theorem twhole_of {G : World → Prop} (C : TabC G) (D : KerC G) (p : PD) (vc vs vw lv sv : Value) (ls : List (List S3)) (xs : List Int) (w : World) (hG : G w) (hP : Pln w vc vs vw p) (hL : Spl w lv ls) (hS : Stp w sv xs) :
    Calls Tryd.prog 6 #[plV vc p.ticks vs vw, lv, sv] w fun e w' => e = .returned (.bool true) ∧ Below w.heap.size w w' := by
  obtain ⟨ca, cc, rfl⟩ := hP.code.form
  obtain ⟨sa, sc, rfl⟩ := hP.spans.form
  obtain ⟨wa, wc', rfl⟩ := hP.wires.form
  obtain ⟨la, lc, rfl⟩ := hL.form
  obtain ⟨xa, xc, rfl⟩ := hS.form
  have hx0 := Bx.first w (.slice ca p.code.length cc) p.ticks (.slice sa p.spans.length sc) (.slice wa p.wires.length wc')
  generalize hW0 : w.alloc (.cells #[.slice ca p.code.length cc, .int .i64 p.ticks, .slice sa p.spans.length sc, .slice wa p.wires.length wc'] 26) = W0 at hx0
  have HG : Hid (∀ W, Below w.heap.size w W → G W) := fun W hb => C.all w W hG hb
  have HP : Hid (Pln w (.slice ca p.code.length cc) (.slice sa p.spans.length sc) (.slice wa p.wires.length wc') p) := hP
  have HL : Hid (Spl w (.slice la ls.length lc) ls) := hL
  have HS : Hid (Stp w (.slice xa xs.length xc) xs) := hS
  have hA : Below W0.heap.size W0 ((((W0.alloc (.cells #[.int .i64 10, .int .i64 0, .int .i64 0] 57)).alloc (.cells #[.slice (some ⟨W0.heap.size, 0, none⟩) 1 1] 36)).alloc (.cells #[.int .i64 0, .int .i64 2, .int .i64 0] 59)).alloc (.cells #[.slice none 0 0, .slice (some ⟨W0.heap.size + 2, 0, none⟩) 1 1] 23)) := ((((Below.refl _ _).alloc (Nat.le_refl _) _).alloc (by simp) _).alloc (by simp; omega) _).alloc (by simp; omega) _
  have q0 : Calls Tryd.prog 22 #[.agg #[.slice (some ⟨W0.heap.size + 1, 0, none⟩) 1 1, .int .i64 2, .slice none 0 0, .slice none 0 0], .slice (some ⟨W0.heap.size + 3, 0, none⟩) 2 2] ((((W0.alloc (.cells #[.int .i64 10, .int .i64 0, .int .i64 0] 57)).alloc (.cells #[.slice (some ⟨W0.heap.size, 0, none⟩) 1 1] 36)).alloc (.cells #[.int .i64 0, .int .i64 2, .int .i64 0] 59)).alloc (.cells #[.slice none 0 0, .slice (some ⟨W0.heap.size + 2, 0, none⟩) 1 1] 23)) fun e w' => ∃ cb F, e = .returned (.tuple #[.pointer (some ⟨cb, 0, none⟩), .nilIface]) ∧ C.K ((((W0.alloc (.cells #[.int .i64 10, .int .i64 0, .int .i64 0] 57)).alloc (.cells #[.slice (some ⟨W0.heap.size, 0, none⟩) 1 1] 36)).alloc (.cells #[.int .i64 0, .int .i64 2, .int .i64 0] 59)).alloc (.cells #[.slice none 0 0, .slice (some ⟨W0.heap.size + 2, 0, none⟩) 1 1] 23)) w' toyT toyL toyT0 cb F := by
    have hp2 := toyT_pln W0 W0.heap.size rfl
    have hl2 := toyT_spl ((W0.alloc (.cells #[.int .i64 10, .int .i64 0, .int .i64 0] 57)).alloc (.cells #[.slice (some ⟨W0.heap.size, 0, none⟩) 1 1] 36)) (W0.heap.size + 2) (by simp)
    have hb2 : Below ((W0.alloc (.cells #[.int .i64 10, .int .i64 0, .int .i64 0] 57)).alloc (.cells #[.slice (some ⟨W0.heap.size, 0, none⟩) 1 1] 36)).heap.size ((W0.alloc (.cells #[.int .i64 10, .int .i64 0, .int .i64 0] 57)).alloc (.cells #[.slice (some ⟨W0.heap.size, 0, none⟩) 1 1] 36)) ((((W0.alloc (.cells #[.int .i64 10, .int .i64 0, .int .i64 0] 57)).alloc (.cells #[.slice (some ⟨W0.heap.size, 0, none⟩) 1 1] 36)).alloc (.cells #[.int .i64 0, .int .i64 2, .int .i64 0] 59)).alloc (.cells #[.slice none 0 0, .slice (some ⟨W0.heap.size + 2, 0, none⟩) 1 1] 23)) := ((Below.refl _ _).alloc (Nat.le_refl _) _).alloc (by simp) _
    exact C.new toyT _ _ _ _ toyL _ (HG.out _ (hx0.step hA).below) (hp2.all hb2) hl2 toyT_e
  have HGA : Hid (G ((((W0.alloc (.cells #[.int .i64 10, .int .i64 0, .int .i64 0] 57)).alloc (.cells #[.slice (some ⟨W0.heap.size, 0, none⟩) 1 1] 36)).alloc (.cells #[.int .i64 0, .int .i64 2, .int .i64 0] 59)).alloc (.cells #[.slice none 0 0, .slice (some ⟨W0.heap.size + 2, 0, none⟩) 1 1] 23))) := HG.out _ (hx0.step hA).below
  have hxA := hx0.step hA
  clear hA
  unfold plV
  go_enter Tryd.func6, Tryd.ntmps6
  go_upto_region 1 with fail
  clear hW0
  go_upto_region 5 with (go_at_call 22; refine q0.mono ?_; rintro e w1 ⟨cb0, F0, rfl, hT0⟩; clear q0)
  generalize ((((W0.alloc (.cells #[.int .i64 10, .int .i64 0, .int .i64 0] 57)).alloc (.cells #[.slice (some ⟨W0.heap.size, 0, none⟩) 1 1] 36)).alloc (.cells #[.int .i64 0, .int .i64 2, .int .i64 0] 59)).alloc (.cells #[.slice none 0 0, .slice (some ⟨W0.heap.size + 2, 0, none⟩) 1 1] 23)) = wT at *
  have HQ0 : Hid (∀ W F, C.K wT W toyT toyL toyT0 cb0 F → Calls Tryd.prog 23 #[.pointer (some ⟨cb0, 0, none⟩)] W fun e w2 => e = .returned (.agg #[.int .i64 0, .int .i64 (-1), .int .i64 0, .int .i64 0]) ∧ ∃ F1, C.K wT w2 toyT toyL toyT1 cb0 F1 ∧ ∀ b, b < W.heap.size → b ∉ F → w2.heap[b]? = W.heap[b]? ∧ b ∉ F1) := fun W F h => (C.tick HGA.out h toyT_e toyT_ok0 toyT_t0).mono (by
    rintro e w2 ⟨rfl, F1, h1, tk, hF⟩
    rw [toyT_ev0]
    exact ⟨rfl, F1, h1, keepF tk hF⟩)
  have HQ1 : Hid (∀ W F, C.K wT W toyT toyL toyT1 cb0 F → Calls Tryd.prog 24 #[.pointer (some ⟨cb0, 0, none⟩), .int .i64 1] W fun e w2 => e = .returned .nilIface ∧ ∃ F1, C.K wT w2 toyT toyL toyT2 cb0 F1 ∧ ∀ b, b < W.heap.size → b ∉ F → w2.heap[b]? = W.heap[b]? ∧ b ∉ F1) := fun W F h => (C.ask 1 h toyT_e toyT_ok1).mono (by
    rintro e w2 ⟨rfl, F1, h1, tk, hF⟩
    rw [toyT_ask]
    exact ⟨rfl, F1, h1, keepF tk hF⟩)
  have HQ2 : Hid (∀ W F, C.K wT W toyT toyL toyT2 cb0 F → Calls Tryd.prog 23 #[.pointer (some ⟨cb0, 0, none⟩)] W fun e w2 => e = .returned (.agg #[.int .i64 1, .int .i64 (-1), .int .i64 0, .int .i64 0]) ∧ ∃ F1, C.K wT w2 toyT toyL toyT3 cb0 F1 ∧ ∀ b, b < W.heap.size → b ∉ F → w2.heap[b]? = W.heap[b]? ∧ b ∉ F1) := fun W F h => (C.tick HGA.out h toyT_e toyT_ok2 toyT_t2).mono (by
    rintro e w2 ⟨rfl, F1, h1, tk, hF⟩
    rw [toyT_ev2]
    exact ⟨rfl, F1, h1, keepF tk hF⟩)
  have HQ3 : Hid (∀ W F, C.K wT W toyT toyL toyT3 cb0 F → Calls Tryd.prog 23 #[.pointer (some ⟨cb0, 0, none⟩)] W fun e w2 => e = .returned (.agg #[.int .i64 2, .int .i64 0, .int .i64 0, .int .i64 0]) ∧ ∃ F1, C.K wT w2 toyT toyL toyT4 cb0 F1 ∧ ∀ b, b < W.heap.size → b ∉ F → w2.heap[b]? = W.heap[b]? ∧ b ∉ F1) := fun W F h => (C.tick HGA.out h toyT_e toyT_ok3 toyT_t3).mono (by
    rintro e w2 ⟨rfl, F1, h1, tk, hF⟩
    rw [toyT_ev3]
    exact ⟨rfl, F1, h1, keepF tk hF⟩)
  have HQ4 : Hid (∀ W F, C.K wT W toyT toyL toyT4 cb0 F → Calls Tryd.prog 25 #[.pointer (some ⟨cb0, 0, none⟩)] W fun e w2 => e = .returned (.int .i64 1) ∧ Below W.heap.size W w2) := fun W F h => (C.now h toyT_e toyT_ok4).mono (by
    rintro e w2 ⟨rfl, h1⟩
    rw [toyT_now]
    exact ⟨rfl, h1⟩)
  have p0 := HQ0.out w1 F0 hT0
  have hge0 := C.ge hT0
  clear hT0 HQ0
  go_upto_region 6 with (go_at_call 23; refine p0.mono ?_; rintro e w2 ⟨rfl, F1, hT1, _⟩; clear p0)
  have bB : Below w2.heap.size w2 (w2.alloc (.cells #[.int .i64 0, .int .i64 (-1), .int .i64 0, .int .i64 0] 45)) := (Below.refl _ _).alloc (Nat.le_refl _) _
  have ea : EvB (w2.alloc (.cells #[.int .i64 0, .int .i64 (-1), .int .i64 0, .int .i64 0] 45)) w2.heap.size 0 (-1) 0 0 := World.alloc_heap_new w2 _
  have ha : w2.heap.size ∉ F1 := fun hm => by have := (C.ge hT1 _ hm).2; omega
  replace hT1 := C.frame hT1 (KTouch.of (M := []) bB) (by simp)
  clear bB
  generalize w2.alloc (.cells #[.int .i64 0, .int .i64 (-1), .int .i64 0, .int .i64 0] 45) = W2 at ea hT1 ⊢
  generalize w2.heap.size = ba at ea ha ⊢
  have p1 := HQ1.out W2 F1 hT1
  clear hT1 HQ1
  go_upto_region 7 with (go_at_call 24; refine p1.mono ?_; rintro e w3 ⟨rfl, F2, hT2, kp⟩; clear p1)
  have ha2 := kp ba ea.lt ha
  replace ea : EvB w3 ba 0 (-1) 0 0 := ha2.1.trans ea
  replace ha := ha2.2
  clear kp ha2
  have p2 := HQ2.out w3 F2 hT2
  clear hT2 HQ2
  go_upto_region 8 with (go_at_call 23; refine p2.mono ?_; rintro e w4 ⟨rfl, F3, hT3, kp⟩; clear p2)
  have ha2 := kp ba ea.lt ha
  replace ea : EvB w4 ba 0 (-1) 0 0 := ha2.1.trans ea
  replace ha := ha2.2
  clear kp ha2
  have bB : Below w4.heap.size w4 (w4.alloc (.cells #[.int .i64 1, .int .i64 (-1), .int .i64 0, .int .i64 0] 45)) := (Below.refl _ _).alloc (Nat.le_refl _) _
  have eb : EvB (w4.alloc (.cells #[.int .i64 1, .int .i64 (-1), .int .i64 0, .int .i64 0] 45)) w4.heap.size 1 (-1) 0 0 := World.alloc_heap_new w4 _
  have hb : w4.heap.size ∉ F3 := fun hm => by have := (C.ge hT3 _ hm).2; omega
  replace ea : EvB (w4.alloc (.cells #[.int .i64 1, .int .i64 (-1), .int .i64 0, .int .i64 0] 45)) ba 0 (-1) 0 0 := (bB.block ba ea.lt).trans ea
  replace hT3 := C.frame hT3 (KTouch.of (M := []) bB) (by simp)
  clear bB
  generalize w4.alloc (.cells #[.int .i64 1, .int .i64 (-1), .int .i64 0, .int .i64 0] 45) = W4 at ea eb hT3 ⊢
  generalize w4.heap.size = bb at eb hb ⊢
  have p3 := HQ3.out W4 F3 hT3
  clear hT3 HQ3
  go_upto_region 9 with (go_at_call 23; refine p3.mono ?_; rintro e w5 ⟨rfl, F4, hT4, kp⟩; clear p3)
  replace ea : EvB w5 ba 0 (-1) 0 0 := (kp ba ea.lt ha).1.trans ea
  replace eb : EvB w5 bb 1 (-1) 0 0 := (kp bb eb.lt hb).1.trans eb
  clear kp ha hb
  have bB : Below w5.heap.size w5 (w5.alloc (.cells #[.int .i64 2, .int .i64 0, .int .i64 0, .int .i64 0] 45)) := (Below.refl _ _).alloc (Nat.le_refl _) _
  have ec : EvB (w5.alloc (.cells #[.int .i64 2, .int .i64 0, .int .i64 0, .int .i64 0] 45)) w5.heap.size 2 0 0 0 := World.alloc_heap_new w5 _
  replace ea : EvB (w5.alloc (.cells #[.int .i64 2, .int .i64 0, .int .i64 0, .int .i64 0] 45)) ba 0 (-1) 0 0 := (bB.block ba ea.lt).trans ea
  replace eb : EvB (w5.alloc (.cells #[.int .i64 2, .int .i64 0, .int .i64 0, .int .i64 0] 45)) bb 1 (-1) 0 0 := (bB.block bb eb.lt).trans eb
  replace hT4 := C.frame hT4 (KTouch.of (M := []) bB) (by simp)
  clear bB
  generalize w5.alloc (.cells #[.int .i64 2, .int .i64 0, .int .i64 0, .int .i64 0] 45) = W5 at ea eb ec hT4 ⊢
  generalize w5.heap.size = bc at ec ⊢
  have p4 := HQ4.out W5 F4 hT4
  obtain ⟨_, a1, _, _⟩ := ea.cs
  obtain ⟨_, b1, _, _⟩ := eb.cs
  obtain ⟨_, c1, _, _⟩ := ec.cs
  have hx5 := hxA.step (C.since hT4)
  clear ea eb ec hT4 HQ4
  go_upto_region 11 with (go_at_call 25; refine p4.mono ?_; rintro e w6 ⟨rfl, b6⟩; clear p4)
  have hx6 := hx5.step b6
  clear a1 b1 c1 hx5 hxA b6 hge0 HGA
  have k0 := hx6.c0
  have k1 := hx6.c1
  have k2 := hx6.c2
  have k3 := hx6.c3
  by_cases hz : tabE p ls = 0
  case neg =>
    have q : Calls Tryd.prog 22 #[.agg #[.slice ca p.code.length cc, .int .i64 p.ticks, .slice sa p.spans.length sc, .slice wa p.wires.length wc'], .slice la ls.length lc] w6 fun e w' => ∃ x, e = .returned (.tuple #[.pointer x, .iface 87 (.int .i64 (tabE p ls))]) ∧ Below w6.heap.size w6 w' := by
      have := C.no p _ _ _ _ ls w6 (HG.out w6 hx6.below) (HP.out.all hx6.below) (HL.out.all hx6.below) hz
      rw [wErr_not hz] at this
      exact this
    generalize tabE p ls = z at q hz
    clear hP hL hS hG
    go_wp2_with (go_at_call 22; refine q.mono ?_; rintro e w7 ⟨xp, rfl, b7⟩; clear q)
    go_ret
    exact ⟨rfl, (hx6.step b7).below⟩
  obtain ⟨hl4, hl0, hlz⟩ := tabE_zero hz
  obtain ⟨lb, lo, u0, g0, l0, rfl, hlb, hlm, hlc, hsp⟩ := HL.out.at hl0
  have hp0 : plchk (withS p l0) = 0 := hlz l0 (List.mem_of_getElem? hlm)
  have HLM : Hid (ls[0]? = some l0) := hlm
  have htk1 : 1 ≤ p.ticks := (fchk_zero (plchk_zero hp0).2.2.1).1
  have htk2 : p.ticks ≤ 40 := (fchk_zero (plchk_zero hp0).2.2.1).2.1
  have q : Calls Tryd.prog 22 #[.agg #[.slice ca p.code.length cc, .int .i64 p.ticks, .slice sa p.spans.length sc, .slice wa p.wires.length wc'], .slice (some ⟨lb, lo, none⟩) ls.length lc] w6 fun e w' => ∃ cb F, e = .returned (.tuple #[.pointer (some ⟨cb, 0, none⟩), .nilIface]) ∧ C.K w6 w' p ls (newT p) cb F := C.new p _ _ _ _ ls w6 (HG.out w6 hx6.below) (HP.out.all hx6.below) (HL.out.all hx6.below) hz
  have HG6 : Hid (G w6) := HG.out w6 hx6.below
  have hn0 : ((ls.length : Int) == 0) = false := by
    simp only [beq_eq_false_iff_ne, ne_eq]
    omega
  have hn1 : (ls.length == 0) = false := by
    simp only [beq_eq_false_iff_ne, ne_eq]
    omega
  have hn2 : decide (p.ticks < 1) = false := decide_eq_false (by omega)
  have hli : (0 : Int) < (ls.length : Int) := by omega
  have HSP : Hid (Sps w (.slice u0 l0.length g0) l0) := hsp
  clear hP hL hS hG hlm hsp hlz
  go_upto_region 14 with (go_at_call 22; refine q.mono ?_; rintro e w7 ⟨cb, F, rfl, hT⟩; clear q)
  have hx7 := hx6.step (C.since hT)
  clear k0 k1 k2 k3
  have k0 := hx7.c0
  have k1 := hx7.c1
  have k2 := hx7.c2
  have k3 := hx7.c3
  go_upto_region 15 with fail
  have bB : Below w7.heap.size w7 (w7.alloc (.cells #[.slice ca p.code.length cc, .int .i64 p.ticks, .slice sa p.spans.length sc, .slice wa p.wires.length wc'] 26)) := (Below.refl _ _).alloc (Nat.le_refl _) _
  have hblk : (w7.alloc (.cells #[.slice ca p.code.length cc, .int .i64 p.ticks, .slice sa p.spans.length sc, .slice wa p.wires.length wc'] 26)).heap[w7.heap.size]? = some (.cells #[.slice ca p.code.length cc, .int .i64 p.ticks, .slice sa p.spans.length sc, .slice wa p.wires.length wc'] 26 (0, 0)) := World.alloc_heap_new w7 _
  have hqF : w7.heap.size ∉ F := fun hm => by have := (C.ge hT _ hm).2; omega
  have hq6 : w6.heap.size ≤ w7.heap.size := (C.since hT).size
  have hqw : w.heap.size + 1 ≤ w7.heap.size := hx7.size
  replace hT := C.frame hT (KTouch.of (M := []) bB) (by simp)
  have hx8 := hx7.step bB
  clear bB k0 k1 k2 k3 hx7
  generalize w7.alloc (.cells #[.slice ca p.code.length cc, .int .i64 p.ticks, .slice sa p.spans.length sc, .slice wa p.wires.length wc'] 26) = W8 at hblk hT hx8 ⊢
  generalize w7.heap.size = qb at hblk hqF hq6 hqw ⊢
  have k1 := hx8.c1
  have hqb : qb < W8.heap.size := (Array.getElem?_eq_some_iff.1 hblk).1
  have lcl : W8.cell? ⟨lb, lo, none⟩ = some (.slice u0 l0.length g0) := (hx8.below.cell (p := ⟨lb, lo, none⟩) hlb).trans (by simpa using hlc)
  have qc2 : W8.cell? ⟨qb, 2, none⟩ = some (.slice sa p.spans.length sc) := by simp [World.cell?, hblk]
  have qf2 : W8.frozen? ⟨qb, 2, none⟩ = false := by simp [World.frozen?, hblk]
  go_upto_region 18 with fail
  have tkq : KTouch [qb] W8 (W8.setCell ⟨qb, 2, none⟩ (.slice u0 l0.length g0)) := KTouch.set W8 (by simp) 2 _
  have hblk9 : (W8.setCell ⟨qb, 2, none⟩ (.slice u0 l0.length g0)).heap[qb]? = some (.cells #[.slice ca p.code.length cc, .int .i64 p.ticks, .slice u0 l0.length g0, .slice wa p.wires.length wc'] 26 (0, 0)) := by simp [World.setCell, Array.getElem?_modify, hblk]
  replace hT := C.frame hT tkq (fun m hm => by rw [List.mem_singleton] at hm; subst hm; exact ⟨hqF, hq6⟩)
  have hx9 : Bx w (W8.setCell ⟨qb, 2, none⟩ (.slice u0 l0.length g0)) (.slice ca p.code.length cc) p.ticks (.slice sa p.spans.length sc) (.slice wa p.wires.length wc') := Below.trans hx8 (tkq.below (fun m hm => by rw [List.mem_singleton] at hm; omega) hx8.size)
  clear hblk qc2 qf2 lcl k1 tkq hx8
  generalize W8.setCell ⟨qb, 2, none⟩ (.slice u0 l0.length g0) = W9 at hblk9 hT hx9 ⊢
  have q0 : W9.cell? ⟨qb, 0, none⟩ = some (.slice ca p.code.length cc) := by simp [World.cell?, hblk9]
  have q1 : W9.cell? ⟨qb, 1, none⟩ = some (.int .i64 p.ticks) := by simp [World.cell?, hblk9]
  have q2 : W9.cell? ⟨qb, 2, none⟩ = some (.slice u0 l0.length g0) := by simp [World.cell?, hblk9]
  have q3 : W9.cell? ⟨qb, 3, none⟩ = some (.slice wa p.wires.length wc') := by simp [World.cell?, hblk9]
  have hPq : Pln W9 (.slice ca p.code.length cc) (.slice u0 l0.length g0) (.slice wa p.wires.length wc') (withS p l0) := ⟨(HP.out.all hx9.below).code, HSP.out.all hx9.below, (HP.out.all hx9.below).wires⟩
  have qk : Calls Tryd.prog 18 #[.agg #[.slice ca p.code.length cc, .int .i64 p.ticks, .slice u0 l0.length g0, .slice wa p.wires.length wc']] W9 fun e w' => ∃ kb H, e = .returned (.tuple #[.pointer (some ⟨kb, 0, none⟩), .nilIface]) ∧ D.K W9 w' (withS p l0) (.slice ca p.code.length cc) (.slice u0 l0.length g0) (.slice wa p.wires.length wc') (newT p).k kb H := D.new (withS p l0) _ _ _ W9 (HG.out W9 hx9.below) hPq hp0
  clear hPq hblk9
  go_upto_region 22 with (go_at_call 18; refine qk.mono ?_; rintro e w10 ⟨kb, H, rfl, hK⟩; clear qk)
  have hTK : TK C D w6 w10 p ls (withS p l0) (.slice ca p.code.length cc) (.slice u0 l0.length g0) (.slice wa p.wires.length wc') (newT p) (newT p).k cb F kb H := by
    refine ⟨C.frame hT (KTouch.of (M := []) (D.since hK)) (by simp), D.lower (C.since hT) hK, fun g hg hm => ?_, newT_ok hz, new_ok hp0⟩
    have h5 := (C.ge hT g hg).2
    have h6 := (D.ge hK g hm).1
    omega
  have hx10 := hx9.step (D.since hK)
  clear hT hK q0 q1 q2 q3 hx9
  have qn := tk_now hz hTK
  rw [newT_count] at qn
  go_upto_region 23 with (go_at_call 25; refine qn.mono ?_; rintro e w11 ⟨rfl, b11⟩; clear qn)
  replace hTK := hTK.all b11
  replace hx10 := hx10.step b11
  have hs6 := hx6.size
  clear b11 hx6 hqF hq6 hqw hqb
  go_wp2
  go_loopw [18, 19, 20, 21] (fun s18 s19 s20 s21 wr => ∃ (i : Nat) (d : TbD) (k : KD) (F H : List Nat) (asked : Bool) (nowv T : Int), i ≤ 120 ∧ s21 = .int .i64 i ∧ s20 = .int .i64 T ∧ s18 = .bool asked ∧ s19 = .int .i64 nowv ∧ T = d.k.time ∧ (asked = false → d.now = 0 ∧ d.next = 0 ∧ k = d.k) ∧ k.time = T ∧ (T % p.ticks ≠ 0 → nowv = (d.now : Int)) ∧ T ≤ i ∧ TK C D w6 wr p ls (withS p l0) (.slice ca p.code.length cc) (.slice u0 l0.length g0) (.slice wa p.wires.length wc') d k cb F kb H ∧ Bx w wr (.slice ca p.code.length cc) p.ticks (.slice sa p.spans.length sc) (.slice wa p.wires.length wc')) (fun _ _ _ s _ => 120 - (intOf s).toNat)
  case atStart => exact ⟨0, newT p, (newT p).k, F, H, false, 0, 0, Nat.zero_le _, rfl, rfl, rfl, rfl, rfl, fun _ => ⟨rfl, rfl, rfl⟩, rfl, fun _ => rfl, (by show (0 : Int) ≤ ((0 : Nat) : Int); omega), hTK, hx10⟩
  case round =>
  clear hTK hx10
  obtain ⟨i, d, k, F1, H1, asked, nowv, T, hi, rfl, rfl, rfl, rfl, hTe, hask, hkt, hnow, hTi, hTK, hx⟩ := hrel
  by_cases hil : i < xs.length
  case neg =>
    have hil' : decide ((i : Int) < (xs.length : Int)) = false := decide_eq_false (by omega)
    have hiln : decide (i < xs.length) = false := decide_eq_false hil
    clear hTK hask hnow
    go_wp2
    go_ret
    exact ⟨rfl, hx.below⟩
  have hii : (i : Int) < (xs.length : Int) := by omega
  by_cases hi2 : i < 120
  case neg =>
    obtain rfl : i = 120 := by omega
    rw [show ((120 : Nat) : Int) = 120 from rfl] at hii ⊢
    clear hTK hask hnow
    go_wp2
    go_ret
    exact ⟨rfl, hx.below⟩
  have hi6 : (i : Int) < 120 := by omega
  have hT0 : 0 ≤ T := by rw [hTe]; exact hTK.ok.k.time
  rename World => wA
  obtain ⟨xb, xo, x, rfl, hxc, _⟩ := HS.out.at hx.below hil
  have HKT : Hid (k.time = T ∧ T = d.k.time) := ⟨hkt, hTe⟩
  have HAS : Hid (asked = false → d.now = 0 ∧ d.next = 0 ∧ k = d.k) := hask
  have HNW : Hid (T % p.ticks ≠ 0 → nowv = (d.now : Int)) := hnow
  clear hkt hTe hask hnow
  have k1 := hx.c1
  by_cases hx0 : 0 < x
  · have hx0' : decide (0 < x) = true := decide_eq_true hx0
    go_upto_region 28 with fail
    go_cut [18] from 113 to 123 (fun s18 wx => ∃ (asked' : Bool) (d' : TbD) (F' : List Nat), s18 = .bool asked' ∧ (asked' = false → d'.now = 0 ∧ d'.next = 0 ∧ k = d'.k) ∧ d'.k = d.k ∧ d'.now = d.now ∧ TK C D w6 wx p ls (withS p l0) (.slice ca p.code.length cc) (.slice u0 l0.length g0) (.slice wa p.wires.length wc') d' k cb F' kb H1 ∧ Bx w wx (.slice ca p.code.length cc) p.ticks (.slice sa p.spans.length sc) (.slice wa p.wires.length wc'))
    case first =>
      cases asked with
      | true =>
        have HT : Hid (TK C D w6 wA p ls (withS p l0) (.slice ca p.code.length cc) (.slice u0 l0.length g0) (.slice wa p.wires.length wc') d k cb F1 kb H1 ∧ Bx w wA (.slice ca p.code.length cc) p.ticks (.slice sa p.spans.length sc) (.slice wa p.wires.length wc')) := ⟨hTK, hx⟩
        clear hTK hx
        go_wp2_with fail
        go_meet
        case rel => exact ⟨true, d, F1, rfl, fun h => (by cases h), rfl, rfl, HT.out.1, HT.out.2⟩
      | false =>
        have HAk : Hid (∀ y : Int, Calls Tryd.prog 24 #[.pointer (some ⟨cb, 0, none⟩), .int .i64 y] wA fun e w' => ∃ (d' : TbD) (F' : List Nat) (ak : Bool), e = .returned (wErr (errB (!ak))) ∧ (ak = false → d'.now = 0 ∧ d'.next = 0 ∧ k = d'.k) ∧ d'.k = d.k ∧ d'.now = d.now ∧ TK C D w6 w' p ls (withS p l0) (.slice ca p.code.length cc) (.slice u0 l0.length g0) (.slice wa p.wires.length wc') d' k cb F' kb H1 ∧ Bx w w' (.slice ca p.code.length cc) p.ticks (.slice sa p.spans.length sc) (.slice wa p.wires.length wc')) := fun y => by
          refine (tk_ask hz y hTK).mono ?_
          rintro e w' ⟨rfl, F', hTK', tk, hF⟩
          have hxx : Bx w w' (.slice ca p.code.length cc) p.ticks (.slice sa p.spans.length sc) (.slice wa p.wires.length wc') := Below.trans hx (tk.below (fun m hm => by have := (C.ge hTK.T m hm).1; omega) hx.size)
          obtain ⟨h1, h2⟩ := askT_k ls d y
          by_cases he : askE ls y = 0
          · exact ⟨_, F', true, by rw [he]; rfl, fun h => (by cases h), h1, h2, hTK', hxx⟩
          · have he1 : askE ls y = 1 := by
              unfold askE at he ⊢
              split
              · rfl
              · rename_i h
                rw [if_neg h] at he
                exact absurd rfl he
            have hd : askT ls d y = d := by
              unfold askT
              rw [if_neg he]
            rw [hd] at hTK'
            exact ⟨d, F', false, by rw [he1]; rfl, fun _ => HAS.out rfl, rfl, rfl, hTK', hxx⟩
        clear hTK hx
        go_wp2_with (go_at_call 24; refine (HAk.out _).mono ?_; rintro e w12 ⟨d', F', ak, rfl, h1, h2, h3, h4, h5⟩; cases ak <;> simp only [errB, wErr, Bool.not_false, Bool.not_true, if_true, Bool.false_eq_true, if_false])
        all_goals (go_meet; exact ⟨_, d', F', rfl, (by first | exact h1 | exact fun _ => h1 trivial | exact fun h => (by cases h)), h2, h3, h4, h5⟩)
    case rest =>
    obtain ⟨asked', d', F', rfl, h1, h2, h3, hTK', hx'⟩ := hcut
    generalize wc = wB at *
    have HA' : Hid (asked' = false → d'.now = 0 ∧ d'.next = 0 ∧ k = d'.k) := h1
    have HD' : Hid (T = d'.k.time ∧ (T % p.ticks ≠ 0 → nowv = (d'.now : Int))) := ⟨by rw [h2]; exact HKT.out.2, by rw [h3]; exact HNW.out⟩
    clear hTK hx h1 h2 h3 hxc k1
    have k1 := hx'.c1
    by_cases hTm : T % p.ticks = 0
    · have hTm' : (T % p.ticks != 0) = false := by simpa using hTm
      have HT : Hid (TK C D w6 wB p ls (withS p l0) (.slice ca p.code.length cc) (.slice u0 l0.length g0) (.slice wa p.wires.length wc') d' k cb F' kb H1 ∧ Bx w wB (.slice ca p.code.length cc) p.ticks (.slice sa p.spans.length sc) (.slice wa p.wires.length wc')) := ⟨hTK', hx'⟩
      clear hTK' hx' hTm
      go_wp2
      go_roundw
      case rel => exact ⟨i + 1, d', k, F', H1, asked', nowv, T, by omega, by go_num, rfl, rfl, rfl, HD'.out.1, HA'.out, HKT.out.1, HD'.out.2, (by push_cast; omega), HT.out.1, HT.out.2⟩
      case measure => simp [intOf]; omega
    · have hTm' : (T % p.ticks != 0) = true := by simpa using hTm
      have qn := tk_now hz hTK'
      rw [count_within (d := d') (by rw [← HD'.out.1]; exact hTm), ← HD'.out.2 hTm] at qn
      have HT : Hid (∀ w', Below wB.heap.size wB w' → TK C D w6 w' p ls (withS p l0) (.slice ca p.code.length cc) (.slice u0 l0.length g0) (.slice wa p.wires.length wc') d' k cb F' kb H1 ∧ Bx w w' (.slice ca p.code.length cc) p.ticks (.slice sa p.spans.length sc) (.slice wa p.wires.length wc')) := fun w' hb => ⟨hTK'.all hb, hx'.step hb⟩
      clear hTK' hx' hTm
      go_wp2_with (go_at_call 25; refine qn.mono ?_; rintro e w13 ⟨rfl, b13⟩; clear qn)
      go_roundw
      case rel => exact ⟨i + 1, d', k, F', H1, asked', nowv, T, by omega, by go_num, rfl, rfl, rfl, HD'.out.1, HA'.out, HKT.out.1, HD'.out.2, (by push_cast; omega), (HT.out w13 b13).1, (HT.out w13 b13).2⟩
      case measure => simp [intOf]; omega
  · have hx0' : decide (0 < x) = false := decide_eq_false hx0
    have qn := tk_now hz hTK
    have hcl := countT_lt hTK.ok
    have HCT : Hid ((T + 1) % p.ticks ≠ 0 → countT p (tickT p ls d) = countT p d) := fun h => count_stays (by rw [tickT_time, ← HKT.out.2]; exact h)
    have HNow2 : Hid ((tickT p ls d).now = countT p d) := rfl
    have HEv : Hid ((evT p ls d).1 = T) := by
      show _ = _
      rw [evT_tick, ← HKT.out.2]
    have HLz : Hid (asked = false → evT p ls d = (tickK (withS p l0) (withS p l0).spans k).2 ∧ (tickT p ls d).now = 0 ∧ (tickT p ls d).next = 0 ∧ (tickK (withS p l0) (withS p l0).spans k).1 = (tickT p ls d).k) := fun h => by
      obtain ⟨h1, h2, h3⟩ := HAS.out h
      obtain ⟨e1, e2, e3, e4⟩ := list_zero (p := p) h1 h2 HLM.out
      rw [h3]
      exact ⟨e1, e3, e4, e2.symm⟩
    have HTm2 : Hid ((tickK (withS p l0) (withS p l0).spans k).1.time = T + 1 ∧ T + 1 = (tickT p ls d).k.time) := ⟨by rw [tick_time, HKT.out.1], by rw [tickT_time, ← HKT.out.2]⟩
    have HTk : Hid (∀ W, Below wA.heap.size wA W → Calls Tryd.prog 23 #[.pointer (some ⟨cb, 0, none⟩)] W fun e w2 => e = .returned (evA (evT p ls d)) ∧ W.heap.size ≤ w2.heap.size ∧ ∀ w3, Below w2.heap.size w2 w3 → Calls Tryd.prog 20 #[.pointer (some ⟨kb, 0, none⟩)] w3 fun e w' => e = .returned (evA (tickK (withS p l0) (withS p l0).spans k).2) ∧ ∃ F' H', TK C D w6 w' p ls (withS p l0) (.slice ca p.code.length cc) (.slice u0 l0.length g0) (.slice wa p.wires.length wc') (tickT p ls d) (tickK (withS p l0) (withS p l0).spans k).1 cb F' kb H' ∧ Bx w w' (.slice ca p.code.length cc) p.ticks (.slice sa p.spans.length sc) (.slice wa p.wires.length wc') ∧ ∀ b, W.heap.size ≤ b → b < w3.heap.size → w'.heap[b]? = w3.heap[b]?) := fun W hb => by
      have hTKw := hTK.all hb
      have hxw := hx.step hb
      refine (tk_tick HG6.out hz hp0 (by rw [← HKT.out.2]; omega) (by rw [HKT.out.1]; omega) hTKw).mono ?_
      rintro e w2 ⟨rfl, hsz, q2⟩
      refine ⟨rfl, hsz, fun w3 b3 => (q2 w3 b3).mono ?_⟩
      rintro e w' ⟨rfl, F', H', h1, ⟨tk1, tk2⟩, hF⟩
      refine ⟨rfl, F', H', h1, Below.trans hxw (tk1.below (fun m hm => by have := hTKw.hge m hm; omega) hxw.size), fun b hb1 hb2 => tk2.block b hb2 (fun hm => ?_)⟩
      have := hTKw.hlt b (List.mem_append.2 (Or.inr hm))
      omega
    unfold evA at HTk
    generalize hev : evT p ls d = ev at HTk HEv HLz
    generalize hkv : (tickK (withS p l0) (withS p l0).spans k).2 = kv at HTk HLz
    generalize (tickK (withS p l0) (withS p l0).spans k).1 = k' at HTk HLz HTm2
    generalize htd : tickT p ls d = d' at HTk HLz HTm2 HCT HNow2
    clear hev hkv htd
    obtain ⟨t1, t2, t3, t4⟩ := ev
    obtain ⟨v1, v2, v3, v4⟩ := kv
    simp only at HTk HEv HLz
    obtain rfl : t1 = T := HEv.out
    clear HEv
    generalize countT p d = cn at *
    have hc1 : decide ((cn : Int) < 0) = false := decide_eq_false (by omega)
    have hc2 : decide ((ls.length : Int) ≤ (cn : Int)) = false := decide_eq_false (by omega)
    have hc3 : decide (ls.length ≤ cn) = false := decide_eq_false (by omega)
    clear hTK hx
    go_upto_region 32 with (go_at_call 25; refine qn.mono ?_; rintro e wB ⟨rfl, bB⟩; clear qn)
    have p1 := HTk.out wB bB
    go_upto_region 33 with (go_at_call 23; refine p1.mono ?_; rintro e wC ⟨rfl, hszC, p2⟩; clear p1)
    have bD : Below wC.heap.size wC (wC.alloc (.cells #[.int .i64 t1, .int .i64 t2, .int .i64 t3, .int .i64 t4] 45)) := (Below.refl _ _).alloc (Nat.le_refl _) _
    have ea : EvB (wC.alloc (.cells #[.int .i64 t1, .int .i64 t2, .int .i64 t3, .int .i64 t4] 45)) wC.heap.size t1 t2 t3 t4 := World.alloc_heap_new wC _
    have p3 := p2 _ bD
    have hBC : wB.heap.size ≤ wC.heap.size := hszC
    clear p2 bD
    generalize wC.alloc (.cells #[.int .i64 t1, .int .i64 t2, .int .i64 t3, .int .i64 t4] 45) = wD at ea p3 ⊢
    generalize wC.heap.size = ba at ea hBC ⊢
    go_upto_region 34 with (go_at_call 20; refine p3.mono ?_; rintro e wE ⟨rfl, F2, H2, hTK2, hx2, hkp⟩; clear p3)
    replace ea : EvB wE ba t1 t2 t3 t4 := (hkp ba hBC ea.lt).trans ea
    have bF : Below wE.heap.size wE (wE.alloc (.cells #[.int .i64 v1, .int .i64 v2, .int .i64 v3, .int .i64 v4] 45)) := (Below.refl _ _).alloc (Nat.le_refl _) _
    have eb : EvB (wE.alloc (.cells #[.int .i64 v1, .int .i64 v2, .int .i64 v3, .int .i64 v4] 45)) wE.heap.size v1 v2 v3 v4 := World.alloc_heap_new wE _
    replace ea : EvB (wE.alloc (.cells #[.int .i64 v1, .int .i64 v2, .int .i64 v3, .int .i64 v4] 45)) ba t1 t2 t3 t4 := (bF.block ba ea.lt).trans ea
    replace hTK2 := hTK2.all bF
    replace hx2 := hx2.step bF
    clear hkp bF hBC
    generalize wE.alloc (.cells #[.int .i64 v1, .int .i64 v2, .int .i64 v3, .int .i64 v4] 45) = wF at ea eb hTK2 hx2 ⊢
    generalize wE.heap.size = bb at eb ⊢
    obtain ⟨e1, e2, e3, e4⟩ := ea.cs
    obtain ⟨f1, f2, f3, f4⟩ := eb.cs
    have k1 := hx2.c1
    have heq := neq_ev
    have qn2 := tk_now hz hTK2
    have HT : Hid (∀ w', Below wF.heap.size wF w' → TK C D w6 w' p ls (withS p l0) (.slice ca p.code.length cc) (.slice u0 l0.length g0) (.slice wa p.wires.length wc') d' k' cb F2 kb H2 ∧ Bx w w' (.slice ca p.code.length cc) p.ticks (.slice sa p.spans.length sc) (.slice wa p.wires.length wc')) := fun w' hb => ⟨hTK2.all hb, hx2.step hb⟩
    have hT1 : 0 ≤ t1 + 1 := by omega
    have HRel : Hid (∀ w', Below wF.heap.size wF w' → ∃ (i' : Nat) (d : TbD) (k : KD) (F H : List Nat) (asked' : Bool) (nowv T : Int), i' = i + 1 ∧ asked' = asked ∧ nowv = (cn : Int) ∧ T = t1 + 1 ∧ T = d.k.time ∧ (asked' = false → d.now = 0 ∧ d.next = 0 ∧ k = d.k) ∧ k.time = T ∧ (T % p.ticks ≠ 0 → nowv = (d.now : Int)) ∧ T ≤ ((i + 1 : Nat) : Int) ∧ TK C D w6 w' p ls (withS p l0) (.slice ca p.code.length cc) (.slice u0 l0.length g0) (.slice wa p.wires.length wc') d k cb F kb H ∧ Bx w w' (.slice ca p.code.length cc) p.ticks (.slice sa p.spans.length sc) (.slice wa p.wires.length wc')) := fun w' hb => ⟨i + 1, d', k', F2, H2, asked, cn, t1 + 1, rfl, rfl, rfl, rfl, HTm2.out.2, fun h => ⟨(HLz.out h).2.1, (HLz.out h).2.2.1, (HLz.out h).2.2.2⟩, HTm2.out.1, fun _ => by rw [HNow2.out], (by push_cast; omega), (HT.out w' hb).1, (HT.out w' hb).2⟩
    clear ea eb hTK2 hx2 HT HTm2
    cases asked with
    | true =>
      clear HLz
      by_cases hTm : (t1 + 1) % p.ticks = 0
      · have hTm' : ((t1 + 1) % p.ticks != 0) = false := by simpa using hTm
        clear hTm qn2
        go_wp2
        go_roundw
        case rel =>
          obtain ⟨i', d, k, F, H, asked', nowv, T, rfl, rfl, rfl, rfl, r5, r6, r7, r8, r9, r10, r11⟩ := HRel.out _ (Below.refl _ _)
          exact ⟨i + 1, d, k, F, H, _, _, _, by omega, by go_num, rfl, rfl, rfl, r5, r6, r7, r8, r9, r10, r11⟩
        case measure => simp [intOf]; omega
      · have hTm' : ((t1 + 1) % p.ticks != 0) = true := by simpa using hTm
        rw [HCT.out hTm] at qn2
        clear hTm
        go_wp2_with (go_at_call 25; refine qn2.mono ?_; rintro e wG ⟨rfl, bG⟩; clear qn2)
        go_roundw
        case rel =>
          obtain ⟨i', d, k, F, H, asked', nowv, T, rfl, rfl, rfl, rfl, r5, r6, r7, r8, r9, r10, r11⟩ := HRel.out _ bG
          exact ⟨i + 1, d, k, F, H, _, _, _, by omega, by go_num, rfl, rfl, rfl, r5, r6, r7, r8, r9, r10, r11⟩
        case measure => simp [intOf]; omega
    | false =>
      obtain ⟨he, _, _, _⟩ := HLz.out rfl
      simp only [Prod.mk.injEq] at he
      obtain ⟨rfl, rfl, rfl, rfl⟩ := he
      clear HLz
      by_cases hTm : (t1 + 1) % p.ticks = 0
      · have hTm' : ((t1 + 1) % p.ticks != 0) = false := by simpa using hTm
        clear hTm qn2
        go_wp2
        go_roundw
        case rel =>
          obtain ⟨i', d, k, F, H, asked', nowv, T, rfl, rfl, rfl, rfl, r5, r6, r7, r8, r9, r10, r11⟩ := HRel.out _ (Below.refl _ _)
          exact ⟨i + 1, d, k, F, H, _, _, _, by omega, by go_num, rfl, rfl, rfl, r5, r6, r7, r8, r9, r10, r11⟩
        case measure => simp [intOf]; omega
      · have hTm' : ((t1 + 1) % p.ticks != 0) = true := by simpa using hTm
        rw [HCT.out hTm] at qn2
        clear hTm
        go_wp2_with (go_at_call 25; refine qn2.mono ?_; rintro e wG ⟨rfl, bG⟩; clear qn2)
        go_roundw
        case rel =>
          obtain ⟨i', d, k, F, H, asked', nowv, T, rfl, rfl, rfl, rfl, r5, r6, r7, r8, r9, r10, r11⟩ := HRel.out _ bG
          exact ⟨i + 1, d, k, F, H, _, _, _, by omega, by go_num, rfl, rfl, rfl, r5, r6, r7, r8, r9, r10, r11⟩
        case measure => simp [intOf]; omega
end Go.Proofs.YtfconbblnmbnpafDoor
namespace Go.Proofs.YtfconbblnmbnpafDoor
open Go.RowKit

/-- Where they lie. -/
structure TW where
  kb : Nat
  a : GW
  lv : Value
  F1 : List Nat
/-- All their blocks. -/
def TW.F (cb : Nat) (x : TW) : List Nat := cb :: (x.F1 ++ x.a.F x.kb)
/-- The list that counts. -/
def listN (ls : List (List S3)) (n : Nat) : List S3 := ls.getD n []
/-- The lists, copied: they lie in the blocks F1. -/
def Lsts (w : World) (F1 : List Nat) (lv : Value) (ls : List (List S3)) : Prop := ∀ w', w.heap.size ≤ w'.heap.size → (∀ b ∈ F1, w'.heap[b]? = w.heap[b]?) → Spl w' lv ls
theorem Lsts.here {w : World} {F1 : List Nat} {lv : Value} {ls : List (List S3)} (h : Lsts w F1 lv ls) : Spl w lv ls := h w (Nat.le_refl _) (fun _ _ => rfl)
theorem Lsts.kept {w w' : World} {F1 : List Nat} {lv : Value} {ls : List (List S3)} (h : Lsts w F1 lv ls) (hs : w.heap.size ≤ w'.heap.size) (hb : ∀ b ∈ F1, w'.heap[b]? = w.heap[b]?) : Lsts w' F1 lv ls := fun w2 h2 hb2 => h w2 (Nat.le_trans hs h2) (fun b hm => (hb2 b hm).trans (hb b hm))
structure GT (w : World) (base : Nat) (p : PD) (ls : List (List S3)) (d : TbD) (cb : Nat) (x : TW) : Prop where
  c0 : w.cell? ⟨cb, 0, none⟩ = some (.pointer (some ⟨x.kb, 0, none⟩))
  c1 : w.cell? ⟨cb, 1, none⟩ = some (.int .i64 p.ticks)
  c2 : w.cell? ⟨cb, 2, none⟩ = some x.lv
  c3 : w.cell? ⟨cb, 3, none⟩ = some (.int .i64 (d.now : Nat))
  c4 : w.cell? ⟨cb, 4, none⟩ = some (.int .i64 (d.next : Nat))
  f3 : w.frozen? ⟨cb, 3, none⟩ = false
  f4 : w.frozen? ⟨cb, 4, none⟩ = false
  k : GK w base (withS p (listN ls d.now)) d.k x.kb x.a
  lists : Lsts w x.F1 x.lv ls
  lb : ∀ b off m cap, x.lv = .slice (some ⟨b, off, none⟩) m cap → b ∈ x.F1
  ge : base ≤ cb ∧ ∀ g ∈ x.F1, base ≤ g
  lt : cb < w.heap.size ∧ ∀ g ∈ x.F1, g < w.heap.size
  ap : cb ∉ x.F1 ∧ cb ∉ x.a.F x.kb ∧ ∀ g ∈ x.F1, g ∉ x.a.F x.kb
section
variable {w w' : World} {base : Nat} {p : PD} {ls : List (List S3)} {d : TbD} {cb : Nat} {x : TW}
theorem GT.flt (h : GT w base p ls d cb x) : ∀ g ∈ x.F cb, g < w.heap.size := fun g hg => by
  unfold TW.F at hg
  rcases List.mem_cons.1 hg with h1 | h1
  · rw [h1]; exact h.lt.1
  · rcases List.mem_append.1 h1 with h2 | h2
    · exact h.lt.2 g h2
    · exact h.k.flt g h2
theorem GT.fge (h : GT w base p ls d cb x) : ∀ g ∈ x.F cb, base ≤ g := fun g hg => by
  unfold TW.F at hg
  rcases List.mem_cons.1 hg with h1 | h1
  · rw [h1]; exact h.ge.1
  · rcases List.mem_append.1 h1 with h2 | h2
    · exact h.ge.2 g h2
    · exact h.k.ge g h2
theorem TW.mem0 (x : TW) (cb : Nat) : cb ∈ x.F cb := by simp [TW.F]
theorem TW.mem1 {x : TW} {cb g : Nat} (h : g ∈ x.F1) : g ∈ x.F cb := by simp [TW.F, h]
theorem TW.mem2 {x : TW} {cb g : Nat} (h : g ∈ x.a.F x.kb) : g ∈ x.F cb := by simp [TW.F, h]
theorem TW.new {x : TW} {cb : Nat} {a' : GW} {m : Nat} (hn : ∀ g ∈ a'.F x.kb, g ∈ x.a.F x.kb ∨ m ≤ g) : ∀ g ∈ TW.F cb { x with a := a' }, g ∈ x.F cb ∨ m ≤ g := fun g hg => by
  unfold TW.F at hg ⊢
  simp only [List.mem_cons, List.mem_append] at hg ⊢
  rcases hg with e | e | e
  · exact Or.inl (Or.inl e)
  · exact Or.inl (Or.inr (Or.inl e))
  · exact (hn g e).imp (fun e => Or.inr (Or.inr e)) id
/-- Their own block and their lists are as they were, the kernel is another one. -/
theorem GT.kern (h : GT w base p ls d cb x) {k' : KD} {a' : GW} (ht : KTouch (x.a.F x.kb) w w') (hk : GK w' base (withS p (listN ls d.now)) k' x.kb a') (hn : ∀ g ∈ a'.F x.kb, g ∈ x.a.F x.kb ∨ w.heap.size ≤ g) : GT w' base p ls ⟨k', d.now, d.next⟩ cb { x with a := a' } := by
  have b1 := ht.block cb h.lt.1 h.ap.2.1
  have hc := fun o => World.cell?_of_block (w := w) (w' := w') (a := ⟨cb, o, none⟩) b1
  have hf := fun o => World.frozen?_of_block (w := w) (w' := w') (a := ⟨cb, o, none⟩) b1
  have hs := ht.size
  have h1 := h.lt.1
  refine ⟨(hc 0).trans h.c0, (hc 1).trans h.c1, (hc 2).trans h.c2, (hc 3).trans h.c3, (hc 4).trans h.c4, (hf 3).trans h.f3, (hf 4).trans h.f4, hk, h.lists.kept hs (fun b hb => ht.block b (h.lt.2 b hb) (h.ap.2.2 b hb)), h.lb, h.ge, ⟨by omega, fun g hg => Nat.lt_of_lt_of_le (h.lt.2 g hg) hs⟩, ⟨h.ap.1, fun hm => ?_, fun g hg hm => ?_⟩⟩
  · rcases hn cb hm with e | e
    · exact h.ap.2.1 e
    · omega
  · rcases hn g hm with e | e
    · exact h.ap.2.2 g hg e
    · have := h.lt.2 g hg
      omega
/-- What is written elsewhere leaves them as they are. -/
theorem GT.frame (h : GT w base p ls d cb x) {M : List Nat} (ht : KTouch M w w') (hM : ∀ m ∈ M, m ∉ x.F cb) : GT w' base p ls d cb x := by
  have b1 := ht.block cb h.lt.1 (fun hm => hM _ hm (x.mem0 cb))
  have hc := fun o => World.cell?_of_block (w := w) (w' := w') (a := ⟨cb, o, none⟩) b1
  have hf := fun o => World.frozen?_of_block (w := w) (w' := w') (a := ⟨cb, o, none⟩) b1
  have hs := ht.size
  have h1 := h.lt.1
  exact ⟨(hc 0).trans h.c0, (hc 1).trans h.c1, (hc 2).trans h.c2, (hc 3).trans h.c3, (hc 4).trans h.c4, (hf 3).trans h.f3, (hf 4).trans h.f4, h.k.frame ht (fun m hm hd => hM m hm (TW.mem2 hd)), h.lists.kept hs (fun b hb => ht.block b (h.lt.2 b hb) (fun hm => hM b hm (TW.mem1 hb))), h.lb, h.ge, ⟨by omega, fun g hg => Nat.lt_of_lt_of_le (h.lt.2 g hg) hs⟩, h.ap⟩
theorem GT.all (h : GT w base p ls d cb x) (hb : Below w.heap.size w w') : GT w' base p ls d cb x := h.frame (M := []) (KTouch.of hb) (by simp)
theorem GT.lower {base' : Nat} (h : GT w base p ls d cb x) (hb : base' ≤ base) : GT w base' p ls d cb x :=
  ⟨h.c0, h.c1, h.c2, h.c3, h.c4, h.f3, h.f4, h.k.lower hb, h.lists, h.lb, ⟨Nat.le_trans hb h.ge.1, fun g hg => Nat.le_trans hb (h.ge.2 g hg)⟩, h.lt, h.ap⟩
/-- Another one was asked for. -/
theorem GT.asked (h : GT w base p ls d cb x) (n : Nat) : GT (w.setCell ⟨cb, 4, none⟩ (.int .i64 (n : Nat))) base p ls ⟨d.k, d.now, n⟩ cb x := by
  have ht : KTouch [cb] w (w.setCell ⟨cb, 4, none⟩ (.int .i64 (n : Nat))) := KTouch.set w (by simp) _ _
  have hs := ht.size
  refine ⟨by simpa [go_sem] using h.c0, by simpa [go_sem] using h.c1, by simpa [go_sem] using h.c2, by simpa [go_sem] using h.c3, by simp [go_sem, h.c4], by simpa using h.f3, by simpa using h.f4, h.k.frame ht (fun m hm => ?_), h.lists.kept hs (fun b hb => ht.block b (h.lt.2 b hb) (fun hm => ?_)), h.lb, h.ge, ⟨by simpa using h.lt.1, fun g hg => Nat.lt_of_lt_of_le (h.lt.2 g hg) hs⟩, h.ap⟩
  · rw [List.mem_singleton] at hm
    subst hm
    exact h.ap.2.1
  · rw [List.mem_singleton] at hm
    subst hm
    exact h.ap.1 hb
/-- Another one counts. -/
theorem GT.count (h : GT w base p ls d cb x) {n : Nat} {a' : GW} (ht : KTouch [x.kb] w w') (hk : GK w' base (withS p (listN ls n)) d.k x.kb a') (hn : ∀ g ∈ a'.F x.kb, g ∈ x.a.F x.kb ∨ w.heap.size ≤ g) : GT (w'.setCell ⟨cb, 3, none⟩ (.int .i64 (n : Nat))) base p ls ⟨d.k, n, d.next⟩ cb { x with a := a' } := by
  have hkm : x.kb ∈ x.a.F x.kb := by simp [GW.F]
  have hck : cb ≠ x.kb := fun e => h.ap.2.1 (by rw [e]; exact hkm)
  have b1 := ht.block cb h.lt.1 (by simpa using hck)
  have hc := fun o => World.cell?_of_block (w := w) (w' := w') (a := ⟨cb, o, none⟩) b1
  have hf := fun o => World.frozen?_of_block (w := w) (w' := w') (a := ⟨cb, o, none⟩) b1
  have hs := ht.size
  have h1 := h.lt.1
  have ht2 : KTouch [cb] w' (w'.setCell ⟨cb, 3, none⟩ (.int .i64 (n : Nat))) := KTouch.set w' (by simp) _ _
  have hs2 := ht2.size
  have hcn : cb ∉ a'.F x.kb := fun hm => by
    rcases hn cb hm with e | e
    · exact h.ap.2.1 e
    · omega
  have k0 := (hc 0).trans h.c0
  have k1 := (hc 1).trans h.c1
  have k2 := (hc 2).trans h.c2
  have k3 := (hc 3).trans h.c3
  have k4 := (hc 4).trans h.c4
  have g3 := (hf 3).trans h.f3
  have g4 := (hf 4).trans h.f4
  refine ⟨by simpa [go_sem] using k0, by simpa [go_sem] using k1, by simpa [go_sem] using k2, by simp [go_sem, k3], by simpa [go_sem] using k4, by simpa using g3, by simpa using g4, hk.frame ht2 (fun m hm => ?_), (h.lists.kept hs (fun b hb => ht.block b (h.lt.2 b hb) (fun hm => ?_))).kept hs2 (fun b hb => ht2.block b (Nat.lt_of_lt_of_le (h.lt.2 b hb) hs) (fun hm => ?_)), h.lb, h.ge, ⟨by omega, fun g hg => Nat.lt_of_lt_of_le (h.lt.2 g hg) (Nat.le_trans hs hs2)⟩, ⟨h.ap.1, hcn, fun g hg hm => ?_⟩⟩
  · rw [List.mem_singleton] at hm
    subst hm
    exact hcn
  · rw [List.mem_singleton] at hm
    subst hm
    exact h.ap.2.2 _ hb hkm
  · rw [List.mem_singleton] at hm
    subst hm
    exact h.ap.1 hb
  · rcases hn g hm with e | e
    · exact h.ap.2.2 g hg e
    · have := h.lt.2 g hg
      omega
end
end Go.Proofs.YtfconbblnmbnpafDoor
namespace Go.Proofs.YtfconbblnmbnpafDoor
open Go.RowKit

theorem infoSps : (Tryd.prog.info? 23).map (fun i => (i.zero, i.size, i.bytes)) = some (some (.slice none 0 0), 1, 24) := by kernel_rfl
/-- Their block. -/
def TBk (W : World) (b : Nat) (kv : Value) (t : Int) (lv : Value) : Prop := W.heap[b]? = some (.cells #[kv, .int .i64 t, lv, .int .i64 0, .int .i64 0] 119 (0, 0))
theorem TBk.cs {W : World} {b : Nat} {kv lv : Value} {t : Int} (h : TBk W b kv t lv) : W.cell? ⟨b, 0, none⟩ = some kv ∧ W.cell? ⟨b, 1, none⟩ = some (.int .i64 t) ∧ W.cell? ⟨b, 2, none⟩ = some lv ∧ W.cell? ⟨b, 3, none⟩ = some (.int .i64 0) ∧ W.cell? ⟨b, 4, none⟩ = some (.int .i64 0) := by
  have e : W.heap[b]? = _ := h
  simp [World.cell?, e]
theorem TBk.free {W : World} {b : Nat} {kv lv : Value} {t : Int} (h : TBk W b kv t lv) (o : Nat) : W.frozen? ⟨b, o, none⟩ = false := by
  have e : W.heap[b]? = _ := h
  simp [World.frozen?, e]
theorem TBk.lists {W : World} {b : Nat} {kv lv : Value} {t : Int} (h : TBk W b kv t lv) (v : Value) : TBk (W.setCell ⟨b, 2, none⟩ v) b kv t v := by
  have e : W.heap[b]? = _ := h
  unfold TBk
  simp [World.setCell, Array.getElem?_modify, e]
theorem TBk.kern {W : World} {b : Nat} {kv lv : Value} {t : Int} (h : TBk W b kv t lv) (v : Value) : TBk (W.setCell ⟨b, 0, none⟩ v) b v t lv := by
  have e : W.heap[b]? = _ := h
  unfold TBk
  simp [World.setCell, Array.getElem?_modify, e]
/-- The plan's box. -/
def PBk (W : World) (b : Nat) (vc : Value) (t : Int) (vs vw : Value) : Prop := W.heap[b]? = some (.cells #[vc, .int .i64 t, vs, vw] 26 (0, 0))
theorem PBk.cs {W : World} {b : Nat} {vc vs vw : Value} {t : Int} (h : PBk W b vc t vs vw) : W.cell? ⟨b, 0, none⟩ = some vc ∧ W.cell? ⟨b, 1, none⟩ = some (.int .i64 t) ∧ W.cell? ⟨b, 2, none⟩ = some vs ∧ W.cell? ⟨b, 3, none⟩ = some vw := by
  have e : W.heap[b]? = _ := h
  simp [World.cell?, e]
theorem PBk.free {W : World} {b : Nat} {vc vs vw : Value} {t : Int} (h : PBk W b vc t vs vw) (o : Nat) : W.frozen? ⟨b, o, none⟩ = false := by
  have e : W.heap[b]? = _ := h
  simp [World.frozen?, e]
theorem PBk.spans {W : World} {b : Nat} {vc vs vw : Value} {t : Int} (h : PBk W b vc t vs vw) (v : Value) : PBk (W.setCell ⟨b, 2, none⟩ v) b vc t v vw := by
  have e : W.heap[b]? = _ := h
  unfold PBk
  simp [World.setCell, Array.getElem?_modify, e]
/-- Tables that are being made: so many lists. -/
structure NT (W0 W : World) (pb cb : Nat) (p : PD) (ls : List (List S3)) (vc vw vs lv : Value) (us : List Value) : Prop where
  tk : KTouch [pb, cb] W0 W
  pl : pb < W0.heap.size
  cl : cb < W0.heap.size
  ne : pb ≠ cb
  pbk : PBk W pb vc p.ticks vs vw
  blk : TBk W cb (.pointer none) p.ticks lv
  row : W.ownsRow W0.heap.size 23 1 lv us.length us
  rows : ∀ (i : Nat) u s, us[i]? = some u → ls[i]? = some s → W.ownsRow W0.heap.size 59 3 u s.length (spCells s)
  len : us.length ≤ ls.length
section
variable {W0 W : World} {pb cb : Nat} {p : PD} {ls : List (List S3)} {vc vw vs lv : Value} {us : List Value}
theorem NT.first (hp : pb < W0.heap.size) (hc : cb < W0.heap.size) (hne : pb ≠ cb) (h1 : PBk W0 pb vc p.ticks vs vw) (h2 : TBk W0 cb (.pointer none) p.ticks (.slice none 0 0)) : NT W0 W0 pb cb p ls vc vw vs (.slice none 0 0) [] :=
  ⟨KTouch.refl _ _, hp, hc, hne, h1, h2, World.ownsRow_nil _ _ _ _, fun i u c hi => (by simp at hi), Nat.zero_le _⟩
/-- Other spans in the box. -/
theorem NT.spans (h : NT W0 W pb cb p ls vc vw vs lv us) (v : Value) : NT W0 (W.setCell ⟨pb, 2, none⟩ v) pb cb p ls vc vw v lv us := by
  have hb : ∀ g, g ≠ pb → (W.setCell ⟨pb, 2, none⟩ v).heap[g]? = W.heap[g]? := fun g hg => Below.heap_setCell _ _ _ _ hg
  have hp := h.pl
  exact ⟨h.tk.trans (KTouch.set _ (by simp) 2 _), h.pl, h.cl, h.ne, h.pbk.spans v, (hb cb (Ne.symm h.ne)).trans h.blk, own_block h.row (fun g hg => hb g (by have := (h.row.lt g hg).1; omega)), fun i u s hu hs => own_block (h.rows i u s hu hs) (fun g hg => hb g (by have := ((h.rows i u s hu hs).lt g hg).1; omega)), h.len⟩
/-- A call that changes nothing old. -/
theorem NT.step {W' : World} (h : NT W0 W pb cb p ls vc vw vs lv us) (hb : Below W.heap.size W W') : NT W0 W' pb cb p ls vc vw vs lv us := by
  have hs := h.tk.size
  have hp := h.pl
  have hc := h.cl
  exact ⟨h.tk.trans (KTouch.of hb), h.pl, h.cl, h.ne, (hb.block pb (by omega)).trans h.pbk, (hb.block cb (by omega)).trans h.blk, own_below h.row hb (Nat.le_refl _), fun i u s hu hs => own_below (h.rows i u s hu hs) hb (Nat.le_refl _), h.len⟩
/-- One list more. -/
theorem NT.more {w1 wa : World} {lv' u : Value} {s : List S3} (h : NT W0 W pb cb p ls vc vw vs lv us) (hs : ls[us.length]? = some s) (b1 : Below W.heap.size W w1) (hu : w1.ownsRow W.heap.size 59 3 u s.length (spCells s))
    (hg : (w1.alloc (.cells #[u] 23)).grownBy wa lv.ownBlock) (hown : wa.ownsRow W0.heap.size 23 1 lv' (us.length + 1) (us ++ [u])) : NT W0 (wa.setCell ⟨cb, 2, none⟩ lv') pb cb p ls vc vw vs lv' (us ++ [u]) := by
  have b2 : Below W.heap.size W (w1.alloc (.cells #[u] 23)) := b1.alloc b1.size _
  have hsz := h.tk.size
  have hpl := h.pl
  have hcl := h.cl
  have h1 := b2.size
  have hcr : ∀ k, lv.ownBlock = some k → W0.heap.size ≤ k := fun k hk => (h.row.lt k hk).1
  have row2 := own_below h.row b2 (Nat.le_refl _)
  have hset : ∀ {e : TypeId} {size : Nat} {v : Value} {n : Nat} {xs : List Value}, wa.ownsRow W0.heap.size e size v n xs → (wa.setCell ⟨cb, 2, none⟩ lv').ownsRow W0.heap.size e size v n xs := fun hx => ownsRow_setCell_below hx (a := ⟨cb, 2, none⟩) h.cl lv'
  have hold : ∀ k, k < W0.heap.size → wa.heap[k]? = W.heap[k]? := fun k hk => (hg.block k (by omega) (fun e => by have := hcr k e.symm; omega)).trans (b2.block k (by omega))
  refine ⟨(h.tk.grow b2 hg hcr).trans (KTouch.set _ (by simp) 2 _), h.pl, h.cl, h.ne, ?_, TBk.lists (lv := lv) ((hold cb hcl).trans h.blk) lv', ?_, fun i x d hx hd => ?_, ?_⟩
  · exact (Below.heap_setCell _ _ _ _ h.ne).trans ((hold pb hpl).trans h.pbk)
  · rw [List.length_append]
    exact hset hown
  · by_cases hi : i < us.length
    · rw [List.getElem?_append_left hi] at hx
      have r2 := own_below (h.rows i x d hx hd) b2 (Nat.le_refl _)
      exact hset (r2.kept hg (own_apart (by decide) r2 row2))
    · have hlt := (List.getElem?_eq_some_iff.1 hx).1
      rw [List.length_append, List.length_singleton] at hlt
      obtain rfl : i = us.length := by omega
      rw [List.getElem?_append_right (Nat.le_refl _), Nat.sub_self] at hx
      simp only [List.getElem?_cons_zero, Option.some.injEq] at hx
      subst hx
      rw [hs] at hd
      obtain rfl := Option.some.inj hd
      have r2 := own_base (own_below hu ((Below.refl _ w1).alloc (Nat.le_refl _) (.cells #[u] 23)) (Nat.le_refl _)) hsz
      exact hset (r2.kept hg (own_apart (by decide) r2 row2))
  · rw [List.length_append, List.length_singleton]
    exact (List.getElem?_eq_some_iff.1 hs).1
end
/-- Lists in rows of their own can be read. -/
theorem gspl_own {w : World} {base : Nat} {lv : Value} {us : List Value} {ls : List (List S3)} (h : w.ownsRow base 23 1 lv us.length us) (hl : us.length = ls.length) (hr : ∀ (i : Nat) u s, us[i]? = some u → ls[i]? = some s → Sps w u s) : Spl w lv ls := by
  have hlt := h.lt
  have hcs := @World.ownsRow.cells _ _ _ _ _ _ _ h
  rcases h.2 with ⟨rfl, h0⟩ | ⟨g, cap, cur, rfl, _, _, hcap, _⟩
  · exact Or.inl ⟨List.eq_nil_of_length_eq_zero (by omega), _, _, rfl⟩
  · refine Or.inr ⟨g, 0, cap, by rw [hl], by omega, (hlt g rfl).2, fun i c hi => ?_⟩
    have hil : i < us.length := by rw [hl]; exact (List.getElem?_eq_some_iff.1 hi).1
    have hu : us[i]? = some us[i] := List.getElem?_eq_getElem hil
    have := hcs rfl i _ hu
    rw [Addr.add_lit] at this
    exact ⟨_, this, hr i _ c hu hi⟩
/-- All is there: tables. -/
theorem NT.done {w W0 W1 W5 : World} {pb cb kb : Nat} {p : PD} {ls : List (List S3)} {vc vw vs lv : Value} {us : List Value} {a : GW} {s0 : List S3} (hw : w.heap.size ≤ cb) (h1 : NT W0 W1 pb cb p ls vc vw vs lv us) (hb : Below W1.heap.size W1 W5) (hul : us.length = ls.length) (hs0 : listN ls 0 = s0) (hk : GK W5 W1.heap.size (withS p s0) (newK (withS p s0)) kb a) : ∃ x : TW, GT (W5.setCell ⟨cb, 0, none⟩ (.pointer (some ⟨kb, 0, none⟩))) w.heap.size p ls (newT p) cb x := by
  have h5 := h1.step hb
  have hB := h5.blk.kern (.pointer (some ⟨kb, 0, none⟩))
  obtain ⟨c0, c1, c2, c3, c4⟩ := hB.cs
  have hs1 := h1.tk.size
  have hs5 := hb.size
  have hcl := h1.cl
  have ht : KTouch [cb] W5 (W5.setCell ⟨cb, 0, none⟩ (.pointer (some ⟨kb, 0, none⟩))) := KTouch.set W5 (by simp) 0 _
  have hsz : (W5.setCell ⟨cb, 0, none⟩ (.pointer (some ⟨kb, 0, none⟩))).heap.size = W5.heap.size := by simp
  have hblk : ∀ g, g ≠ cb → (W5.setCell ⟨cb, 0, none⟩ (.pointer (some ⟨kb, 0, none⟩))).heap[g]? = W5.heap[g]? := fun g hg => Below.heap_setCell _ _ _ _ hg
  have hat : ∀ (i : Nat) u, us[i]? = some u → ∃ s, ls[i]? = some s := fun i u hu => ⟨_, List.getElem?_eq_getElem (by rw [← hul]; exact (List.getElem?_eq_some_iff.1 hu).1)⟩
  have hF : ∀ g ∈ lv.ownBlock.toList ++ us.filterMap Value.ownBlock, W0.heap.size ≤ g ∧ g < W1.heap.size := fun g hg => by
    rcases List.mem_append.1 hg with hg | hg
    · exact h1.row.lt g (ofOwn hg)
    · obtain ⟨u, hu, e⟩ := List.mem_filterMap.1 hg
      obtain ⟨i, hi⟩ := List.mem_iff_getElem?.1 hu
      obtain ⟨s, hs⟩ := hat i u hi
      exact (h1.rows i u s hi hs).lt g e
  have hcn : cb ∉ a.F kb := fun hm => by have := hk.ge cb hm; omega
  refine ⟨⟨kb, a, lv, lv.ownBlock.toList ++ us.filterMap Value.ownBlock⟩, c0, c1, c2, c3, c4, hB.free 3, hB.free 4, ?_, fun w' hs hb' => ?_, fun b off m cap e => ?_, ⟨hw, fun g hg => ?_⟩, ⟨by rw [hsz]; omega, fun g hg => ?_⟩, ⟨fun hm => ?_, hcn, fun g hg hm => ?_⟩⟩
  · show GK _ _ (withS p (listN ls 0)) (newK p) kb a
    rw [hs0]
    exact (hk.lower (by omega)).frame ht (fun m hm => by rw [List.mem_singleton] at hm; subst hm; exact hcn)
  · refine gspl_own (own_block h5.row (fun g hg => ?_)) hul (fun i u s hu hs => sps_of_own (own_block (h5.rows i u s hu hs) (fun g hg => ?_)))
    · have := (h5.row.lt g hg).1
      exact (hb' g (List.mem_append_left _ (by simp [hg]))).trans (hblk g (by omega))
    · have := ((h5.rows i u s hu hs).lt g hg).1
      exact (hb' g (List.mem_append_right _ (List.mem_filterMap.2 ⟨u, List.mem_of_getElem? hu, hg⟩))).trans (hblk g (by omega))
  · rcases h1.row.2 with ⟨e0, _⟩ | ⟨g, cap', cur, e0, _⟩
    · rw [e0] at e
      cases e
    · simp only at e
      rw [e0] at e ⊢
      injection e with e1
      injection e1 with e2
      injection e2 with e3
      subst e3
      simp [Value.ownBlock]
  · have := (hF g hg).1
    omega
  · have := (hF g hg).2
    rw [hsz]
    omega
  · have := (hF cb hm).1
    omega
  · have h6 := (hF g hg).2
    have h7 := hk.ge g hm
    omega
/-- What New answers. -/
def TbQ (w : World) (p : PD) (ls : List (List S3)) (e : Ending) (w' : World) : Prop :=
  ((tabE p ls = 0 ∧ ∃ cb x, e = .returned (.tuple #[.pointer (some ⟨cb, 0, none⟩), .nilIface]) ∧ GT w' w.heap.size p ls (newT p) cb x) ∨ (tabE p ls ≠ 0 ∧ ∃ x, e = .returned (.tuple #[.pointer x, wErr (tabE p ls)]))) ∧ Below w.heap.size w w'
theorem TbQ.bad {w w' : World} {p : PD} {ls : List (List S3)} {e : Int} (h : tabE p ls = e) (he : e ≠ 0) (hb : Below w.heap.size w w') : TbQ w p ls (.returned (.tuple #[.pointer none, .iface 87 (.int .i64 e)])) w' :=
  ⟨Or.inr ⟨by rw [h]; exact he, none, by rw [h, wErr_not he]⟩, hb⟩
set_option maxRecDepth 100000 in
set_option maxHeartbeats 4000000 in
theorem tbnew_many (p : PD) (vc vs vw : Value) (la : Option Addr) (lc : Nat) (ls : List (List S3)) (w : World) (hP : Pln w vc vs vw p) (h4 : 4 < ls.length) :
    Calls Tryd.prog 22 #[plV vc p.ticks vs vw, .slice la ls.length lc] w fun e w' => TbQ w p ls e w' := by
  obtain ⟨ca, cc, rfl⟩ := hP.code.form
  obtain ⟨sa, sc, rfl⟩ := hP.spans.form
  obtain ⟨wa, wc', rfl⟩ := hP.wires.form
  have HE : Hid (tabE p ls = 4) := by
    show _ = _
    unfold tabE
    rw [if_pos h4]
  have h4' : (4 : Int) < (ls.length : Int) := by omega
  unfold plV
  clear hP
  go_enter Tryd.func22, Tryd.ntmps22
  go_wp2
  go_ret2
  exact TbQ.bad HE.out (by decide) ((Below.refl _ _).alloc (Nat.le_refl _) _)
set_option maxRecDepth 100000 in
set_option maxHeartbeats 4000000 in
theorem tbnew_none (p : PD) (vc vs vw : Value) (la : Option Addr) (lc : Nat) (w : World) (hP : Pln w vc vs vw p) :
    Calls Tryd.prog 22 #[plV vc p.ticks vs vw, .slice la 0 lc] w fun e w' => TbQ w p [] e w' := by
  obtain ⟨ca, cc, rfl⟩ := hP.code.form
  obtain ⟨sa, sc, rfl⟩ := hP.spans.form
  obtain ⟨wa, wc', rfl⟩ := hP.wires.form
  have HE : Hid (tabE p [] = 5) := rfl
  unfold plV
  clear hP
  go_enter Tryd.func22, Tryd.ntmps22
  go_wp2
  go_ret2
  exact TbQ.bad HE.out (by decide) ((Below.refl _ _).alloc (Nat.le_refl _) _)
theorem listsE_next {p : PD} {ls : List (List S3)} {j : Nat} {s : List S3} (h : ls[j]? = some s) : listsE p (ls.drop j) = if plchk (withS p s) = 0 then listsE p (ls.drop (j + 1)) else plchk (withS p s) := by
  obtain ⟨hj, rfl⟩ := List.getElem?_eq_some_iff.1 h
  rw [List.drop_eq_getElem_cons hj, listsE]
set_option maxRecDepth 100000 in
set_option maxHeartbeats 16000000 in
theorem tbnew_mid (p : PD) (vc vs vw : Value) (la : Option Addr) (lc : Nat) (ls : List (List S3)) (w : World) (hfm : Forms w) (hP : Pln w vc vs vw p) (hl : Spl w (.slice la ls.length lc) ls) (h4 : ls.length ≤ 4) (h0 : 0 < ls.length) :
    Calls Tryd.prog 22 #[plV vc p.ticks vs vw, .slice la ls.length lc] w fun e w' => TbQ w p ls e w' := by
  obtain ⟨ca, cc, rfl⟩ := hP.code.form
  obtain ⟨sa, sc, rfl⟩ := hP.spans.form
  obtain ⟨wa, wc', rfl⟩ := hP.wires.form
  have HE : Hid (tabE p ls = listsE p ls) := by
    show _ = _
    unfold tabE
    rw [if_neg (by omega), if_neg (by omega)]
  have h4' : decide ((4 : Int) < (ls.length : Int)) = false := decide_eq_false (by omega)
  have h4'' : decide (4 < ls.length) = false := decide_eq_false (by omega)
  have h0I : (ls.length : Int) ≠ 0 := by omega
  have h0' : ((ls.length : Int) == 0) = false := beq_eq_false_iff_ne.2 h0I
  have h0'' : (ls.length == 0) = false := beq_eq_false_iff_ne.2 (by omega)
  have HP : Hid (Pln w (.slice ca p.code.length cc) (.slice sa p.spans.length sc) (.slice wa p.wires.length wc') p) := hP
  have HL : Hid (Spl w (.slice la ls.length lc) ls) := hl
  have HF : Hid (Forms w) := hfm
  generalize hvc : Value.slice ca p.code.length cc = vc at *
  generalize hvw : Value.slice wa p.wires.length wc' = vw at *
  unfold plV
  clear hP hl hfm
  go_enter Tryd.func22, Tryd.ntmps22
  go_upto_region 7 with fail
  have hW0 : Below w.heap.size w ((w.alloc (.cells #[vc, .int .i64 p.ticks, .slice sa p.spans.length sc, vw] 26)).alloc (.cells #[.pointer none, .int .i64 p.ticks, .slice none 0 0, .int .i64 0, .int .i64 0] 119)) := ((Below.refl _ _).alloc (Nat.le_refl _) _).alloc (by simp) _
  have hPB : PBk ((w.alloc (.cells #[vc, .int .i64 p.ticks, .slice sa p.spans.length sc, vw] 26)).alloc (.cells #[.pointer none, .int .i64 p.ticks, .slice none 0 0, .int .i64 0, .int .i64 0] 119)) w.heap.size vc p.ticks (.slice sa p.spans.length sc) vw := (Below.heap_alloc _ _ _ (by simp)).trans (World.alloc_heap_new _ _)
  have hTB : TBk ((w.alloc (.cells #[vc, .int .i64 p.ticks, .slice sa p.spans.length sc, vw] 26)).alloc (.cells #[.pointer none, .int .i64 p.ticks, .slice none 0 0, .int .i64 0, .int .i64 0] 119)) (w.heap.size + 1) (.pointer none) p.ticks (.slice none 0 0) := by
    have := World.alloc_heap_new (w.alloc (.cells #[vc, .int .i64 p.ticks, .slice sa p.spans.length sc, vw] 26)) (.cells #[.pointer none, .int .i64 p.ticks, .slice none 0 0, .int .i64 0, .int .i64 0] 119)
    rwa [World.size_alloc] at this
  have hs0 : ((w.alloc (.cells #[vc, .int .i64 p.ticks, .slice sa p.spans.length sc, vw] 26)).alloc (.cells #[.pointer none, .int .i64 p.ticks, .slice none 0 0, .int .i64 0, .int .i64 0] 119)).heap.size = w.heap.size + 2 := by simp
  generalize (w.alloc (.cells #[vc, .int .i64 p.ticks, .slice sa p.spans.length sc, vw] 26)).alloc (.cells #[.pointer none, .int .i64 p.ticks, .slice none 0 0, .int .i64 0, .int .i64 0] 119) = W0 at *
  have hNT0 : NT W0 W0 w.heap.size (w.heap.size + 1) p ls vc vw (.slice sa p.spans.length sc) (.slice none 0 0) [] := NT.first (by omega) (by omega) (by omega) hPB hTB
  obtain ⟨pb, hpb⟩ : ∃ b, w.heap.size = b := ⟨_, rfl⟩
  obtain ⟨cb, hcb⟩ : ∃ b, w.heap.size + 1 = b := ⟨_, rfl⟩
  have hpw : w.heap.size ≤ pb := by omega
  have hcw : w.heap.size ≤ cb := by omega
  have HNT0 : Hid (NT W0 W0 pb cb p ls vc vw (.slice sa p.spans.length sc) (.slice none 0 0) []) := by
    show NT _ _ _ _ _ _ _ _ _ _ _
    rw [← hpb, ← hcb]
    exact hNT0
  have HW : Hid (∀ W vs' lv' us, NT W0 W pb cb p ls vc vw vs' lv' us → Below w.heap.size w W) := fun W vs' lv' us hn => hW0.trans (hn.tk.below (fun b hb => by simp at hb; omega) hW0.size)
  clear hNT0 hPB hTB hs0 hW0
  rw [hcb, hpb]
  clear hpb hcb
  go_loopw [26] (fun i wr => ∃ us vs' lv', i = .int .i64 (us.length : Nat) ∧ NT W0 wr pb cb p ls vc vw vs' lv' us ∧ Hid (listsE p ls = listsE p (ls.drop us.length))) (fun i _ => ls.length - (intOf i).toNat)
  case atStart => exact ⟨[], _, _, rfl, HNT0.out, rfl⟩
  case round =>
    obtain ⟨us, vs', lq, rfl, hn1, HLE⟩ := hrel
    have hlen := hn1.len
    have hbx := HW.out _ _ _ _ hn1
    by_cases hkl : us.length < ls.length
    · have hki : (us.length : Int) < (ls.length : Int) := by omega
      obtain ⟨lb, lo, ua, ug, s, rfl, hblt, hsy, hcd, hsps⟩ := HL.out.at hkl
      replace hcd := (hbx.cell (p := ⟨lb, _, none⟩) hblt).trans hcd
      have HSY : Hid (ls[us.length]? = some s) := hsy
      have HNX : Hid (listsE p ls = if plchk (withS p s) = 0 then listsE p (ls.drop (us.length + 1)) else plchk (withS p s)) := HLE.out.trans (listsE_next hsy)
      have HN1 : Hid (NT W0 (wr.setCell ⟨pb, 2, none⟩ (.slice ua s.length ug)) pb cb p ls vc vw (.slice ua s.length ug) lq us) := hn1.spans _
      obtain ⟨k0, k1, k2, k3⟩ := hn1.pbk.cs
      have g2 := hn1.pbk.free 2
      have hsz1 : (wr.setCell ⟨pb, 2, none⟩ (.slice ua s.length ug)).heap.size = wr.heap.size := by simp
      clear hn1 hsy HLE
      go_upto_region 10 with fail
      clear k0 k1 k2 k3 g2
      generalize wr.setCell ⟨pb, 2, none⟩ (.slice ua s.length ug) = W1 at *
      have hb1 := HW.out _ _ _ _ HN1.out
      obtain ⟨k0, k1, k2, k3⟩ := HN1.out.pbk.cs
      have HCk : Hid (Calls Tryd.prog 30 #[.agg #[vc, .int .i64 p.ticks, .slice ua s.length ug, vw]] W1 fun e w' => e = .returned (wErr (plchk (withS p s))) ∧ Below W1.heap.size W1 w') := plcheck_any (withS p s) vc (.slice ua s.length ug) vw W1 (HF.out.all hb1) ⟨(HP.out.all hb1).code, hsps.all hb1, (HP.out.all hb1).wires⟩
      by_cases he : plchk (withS p s) = 0
      · rw [if_pos he] at HNX
        rw [he, show wErr 0 = .nilIface from rfl] at HCk
        have hsl : s.length ≤ 12 := (fchk_zero (plchk_zero he).2.2.1).2.2.1
        clear hcd he
        go_upto_region 13 with (go_at_call 30; refine HCk.out.mono ?_; rintro e w2 ⟨rfl, b2⟩)
        have HN : Hid (NT W0 w2 pb cb p ls vc vw (.slice ua s.length ug) lq us) := HN1.out.step b2
        have hb2 := hb1.trans (b2.mono hb1.size)
        have HCl : Hid (∀ W, Below w2.heap.size w2 W → Calls Tryd.prog 41 #[.slice ua s.length ug] W fun e w' => ∃ ao n cap, e = .returned (.slice ao n cap) ∧ w'.ownsRow W.heap.size 59 3 (.slice ao n cap) s.length (spCells s) ∧ Below W.heap.size W w') := fun W hb => by
          refine (clone_sps s _ W (hsps.all (hb2.trans (hb.mono hb2.size))) (by omega)).mono ?_
          rintro e w' ⟨v, rfl, h1, h2⟩
          obtain ⟨ao, n, cap, rfl⟩ := own_form h1
          exact ⟨ao, n, cap, rfl, h1, h2⟩
        clear HN1 k0 k1 k2 k3 b2 HCk hsps
        generalize w2 = wr at *
        have c0 := HN.out.blk.cs.2.2.1
        have hkr : cb < wr.heap.size := Nat.lt_of_lt_of_le HN.out.cl HN.out.tk.size
        have bQ : Below wr.heap.size wr wr.drew := (Below.refl _ _).drew
        refine wp_region_popped (fun W => W.cell? ⟨cb, 2, none⟩ = some lq) (by kernel_rfl) rfl (by decide +kernel) c0 (fun hHeld => ?_)
        simp only [List.pop_toArray, List.dropLast_cons_cons, List.dropLast_singleton, List.size_toArray, List.length_cons, List.length_nil, Nat.reduceAdd, Array.replicate_succ, Array.replicate_zero, List.push_toArray, List.nil_append, List.cons_append]
        refine wpAnyH_take (i := 0) (v := ?_) rfl (by decide +kernel) (by decide +kernel) (by decide +kernel) (fun _ _ _ h => h) (Or.inl ⟨by rfl, ?_⟩) (by assumption) ?_
        rotate_left
        · intro W hSw
          try dsimp only at hSw
          go_simp
          try with_reducible rfl
        simp only [Act.put, List.setIfInBounds_toArray, List.set_cons_zero]
        refine wpAnyH_take (i := 1) (v := ?_) rfl (by decide +kernel) (by decide +kernel) (by decide +kernel) (fun _ _ _ h => h) (Or.inl ⟨by rfl, ?_⟩) (by assumption) ?_
        rotate_left
        · intro W hSw
          try dsimp only at hSw
          go_simp
          try with_reducible rfl
        simp only [Act.put, List.setIfInBounds_toArray, List.set_cons_zero, List.set_cons_succ]
        refine wpAnyH_take (i := 2) (v := ?_) rfl (by decide +kernel) (by decide +kernel) (by decide +kernel) (fun _ _ _ h => h) (Or.inl ⟨by rfl, ?_⟩) (by assumption) ?_
        rotate_left
        · intro W hSw
          try dsimp only at hSw
          go_simp
          try with_reducible rfl
        simp only [Act.put, List.setIfInBounds_toArray, List.set_cons_zero, List.set_cons_succ]
        refine wpAnyH_take (i := 3) (v := ?_) rfl (by decide +kernel) (by decide +kernel) (by decide +kernel) (fun _ _ _ h => h) (Or.inl ⟨by rfl, ?_⟩) (by assumption) ?_
        rotate_left
        · intro W hSw
          try dsimp only at hSw
          go_simp
          try with_reducible rfl
        simp only [Act.put, List.setIfInBounds_toArray, List.set_cons_zero, List.set_cons_succ]
        refine wpAnyH_take (i := 4) (v := ?_) rfl (by decide +kernel) (by decide +kernel) (by decide +kernel) (fun _ _ _ h => h) (Or.inl ⟨by rfl, ?_⟩) (by assumption) ?_
        rotate_left
        · intro W hSw
          try dsimp only at hSw
          go_simp
          try with_reducible rfl
        simp only [Act.put, List.setIfInBounds_toArray, List.set_cons_zero, List.set_cons_succ]
        refine wpAnyH_take (i := 5) (v := ?_) rfl (by decide +kernel) (by decide +kernel) (by decide +kernel) (fun _ _ _ h => h) (Or.inl ⟨by rfl, ?_⟩) (by assumption) ?_
        rotate_left
        · intro W hSw
          try dsimp only at hSw
          go_simp
          try with_reducible rfl
        simp only [Act.put, List.setIfInBounds_toArray, List.set_cons_zero, List.set_cons_succ]
        refine wpAnyH_ready (rs := [6]) (by decide +kernel) (by simp) ?_
        refine AllReadyH.cons (o := _) rfl (fun K hK => ?_) AllReadyH.nil
        go_simp
        go_at_call 41
        refine (HCl.out _ bQ).mono ?_
        rintro e w8 ⟨vo, vn, vk, rfl, hown8, b8⟩
        replace b8 := bQ.trans (b8.mono (Nat.le_refl _))
        have s8 : w8.cell? ⟨cb, 2, none⟩ = some lq := (b8.cell (p := ⟨cb, 2, none⟩) hkr).trans c0
        go_wp2_with fail
        refine hK.out _ _ s8 (fun hHeld => ?_)
        clear hK K
        simp only [List.setIfInBounds_toArray, List.set_cons_zero, List.set_cons_succ]
        refine wpAnyH_ready (rs := [7]) (by decide +kernel) (by simp) ?_
        refine AllReadyH.cons (o := _) rfl (fun K hK => ?_) AllReadyH.nil
        go_simp
        have b9 : Below wr.heap.size wr (w8.alloc (.cells #[.slice vo vn vk] 23)) := b8.alloc b8.size _
        have s9 : (w8.alloc (.cells #[.slice vo vn vk] 23)).cell? ⟨cb, 2, none⟩ = some lq := (b9.cell (p := ⟨cb, 2, none⟩) hkr).trans c0
        refine hK.out _ _ s9 (fun hHeld => ?_)
        clear hK K
        simp only [List.setIfInBounds_toArray, List.set_cons_zero, List.set_cons_succ]
        refine wpAnyH_ready (rs := [8]) (by decide +kernel) (by simp) ?_
        refine AllReadyH.cons (o := _) rfl (fun K hK => ?_) AllReadyH.nil
        obtain ⟨iT, hiT, hz1, hz2, hz3⟩ := info3 infoSps
        have hro9 := own_below HN.out.row b9 (Nat.le_refl _)
        have hs09 : W0.heap.size ≤ (w8.alloc (.cells #[.slice vo vn vk] 23)).heap.size := Nat.le_trans HN.out.tk.size b9.size
        obtain ⟨lv2, wa9, hra, hown9, hgr9, hnw9⟩ := run_append_at (P := Tryd.prog) (w8.alloc (.cells #[.slice vo vn vk] 23)) 72 72 W0.heap.size 23 iT _ 1 24 (by kernel_rfl) hiT hz1 hz2 hz3 rfl (by decide) lq us.length us hro9 ⟨w8.heap.size, 0, none⟩ 1 1 [.slice vo vn vk] rfl (one_new_at rfl _ _) (by simp [Value.oneCell']) (by have : maxLen = 9223372036854775807 := rfl; omega) (by omega) hs09
        clear hiT hz1 hz2 hz3
        obtain ⟨gv, ck, rfl⟩ : ∃ g cap, lv2 = .slice (some ⟨g, 0, none⟩) (us.length + 1) cap := own_succ hown9
        have hcr : ∀ k, lq.ownBlock = some k → W0.heap.size ≤ k := fun k hk => (HN.out.row.lt k hk).1
        have hblk9 : wa9.heap[cb]? = wr.heap[cb]? := (hgr9.block cb (Nat.lt_of_lt_of_le hkr b9.size) (fun e => by have := hcr cb e.symm; have := HN.out.cl; omega)).trans (b9.block cb hkr)
        have s10 : wa9.cell? ⟨cb, 2, none⟩ = some lq := (World.cell?_of_block (w := wr) (a := ⟨cb, 2, none⟩) hblk9).trans c0
        have f10 : wa9.frozen? ⟨cb, 2, none⟩ = false := (World.frozen?_of_block (w := wr) (a := ⟨cb, 2, none⟩) hblk9).trans (HN.out.blk.free 2)
        have HN9 := HN.out.more HSY.out b8 hown8 hgr9 hown9
        refine step_append_eq rfl (.tmp 41) (.tmp 44) 72 rfl lq (.slice (some ⟨w8.heap.size, 0, none⟩) 1 1) rfl rfl (.slice (some ⟨gv, 0, none⟩) (us.length + 1) ck) wa9 hra ?_
        refine hK.out _ _ s10 (fun hHeld => ?_)
        clear hK K
        simp only [Act.put, List.setIfInBounds_toArray, List.set_cons_zero, List.set_cons_succ]
        refine wpAnyH_take (i := 9) (v := ?_) rfl (by decide +kernel) (by decide +kernel) (by decide +kernel) (fun _ _ _ h => h) (Or.inl ⟨by rfl, ?_⟩) (by assumption) ?_
        rotate_left
        · intro W hSw
          try dsimp only at hSw
          go_simp
          try with_reducible rfl
        simp only [Act.put, List.setIfInBounds_toArray, List.set_cons_zero, List.set_cons_succ]
        refine wpAnyH_take (i := 10) (v := ?_) rfl (by decide +kernel) (by decide +kernel) (by decide +kernel) (fun _ _ _ h => h) (Or.inl ⟨by rfl, ?_⟩) (by assumption) ?_
        rotate_left
        · intro W hSw
          try dsimp only at hSw
          go_simp
          try with_reducible rfl
        simp only [Act.put, List.setIfInBounds_toArray, List.set_cons_zero, List.set_cons_succ]
        refine wpAnyH_done (by decide +kernel) ?_ _
        show Oper.wp _ _ _ _ _ _
        go_simp
        clear hra hown9 hgr9 hnw9 s8 s9 s10 f10 hHeld b8 b9 hown8 hro9 hs09 hblk9 c0 HCl hcr
        go_wp2_with fail
        go_roundw
        case rel => exact ⟨us ++ [.slice vo vn vk], _, _, by rw [List.length_append]; go_num, HN9, by rw [List.length_append]; exact HNX⟩
        case measure => simp [intOf]; omega
      · rw [if_neg he] at HNX
        rw [wErr_not he] at HCk
        have HT : Hid (tabE p ls = plchk (withS p s)) := HE.out.trans HNX.out
        have HEE : Hid (plchk (withS p s) ≠ 0) := he
        generalize plchk (withS p s) = ec at *
        clear HNX he
        go_wp2_with (go_at_call 30; refine HCk.out.mono ?_; rintro e w2 ⟨rfl, b2⟩)
        go_ret2
        exact TbQ.bad HT.out HEE.out (hb1.trans (b2.mono hb1.size))
    · have hki : decide ((us.length : Int) < (ls.length : Int)) = false := decide_eq_false (by omega)
      have hkn : decide (us.length < ls.length) = false := decide_eq_false (by omega)
      have hul : Hid (us.length = ls.length) := by show _ = _; omega
      have HZ : Hid (listsE p ls = 0) := by
        show _ = _
        rw [HLE.out, hul.out, List.drop_length]
        rfl
      obtain ⟨lb, lo, ua, ug, s, rfl, hblt, hsy, hcd, hsps⟩ := HL.out.at h0
      replace hcd := (hbx.cell (p := ⟨lb, _, none⟩) hblt).trans hcd
      rw [Nat.add_zero] at hcd
      have hpz : plchk (withS p s) = 0 := listsE_zero HZ.out s (List.mem_of_getElem? hsy)
      have HS0 : Hid (listN ls 0 = s) := by
        show _ = _
        unfold listN
        simp [List.getD, hsy]
      have HN1 : Hid (NT W0 (wr.setCell ⟨pb, 2, none⟩ (.slice ua s.length ug)) pb cb p ls vc vw (.slice ua s.length ug) lq us) := hn1.spans _
      obtain ⟨k0, k1, k2, k3⟩ := hn1.pbk.cs
      have g2 := hn1.pbk.free 2
      clear hn1 hsy HLE
      go_upto_region 16 with fail
      clear k0 k1 k2 k3 g2 hcd
      generalize wr.setCell ⟨pb, 2, none⟩ (.slice ua s.length ug) = W1 at *
      have hb1 := HW.out _ _ _ _ HN1.out
      obtain ⟨k0, k1, k2, k3⟩ := HN1.out.pbk.cs
      have HNw : Hid (Calls Tryd.prog 18 #[.agg #[vc, .int .i64 p.ticks, .slice ua s.length ug, vw]] W1 fun e w' => ∃ kb a, e = .returned (.tuple #[.pointer (some ⟨kb, 0, none⟩), .nilIface]) ∧ GK w' W1.heap.size (withS p s) (newK (withS p s)) kb a ∧ Below W1.heap.size W1 w') := gnew_ok (withS p s) vc (.slice ua s.length ug) vw W1 (HF.out.all hb1) ⟨(HP.out.all hb1).code, hsps.all hb1, (HP.out.all hb1).wires⟩ hpz
      clear hsps hpz
      go_upto_region 19 with (go_at_call 18; refine HNw.out.mono ?_; rintro e w5 ⟨kb, a, rfl, hgk, b5⟩)
      have HD : Hid (∃ x : TW, GT (w5.setCell ⟨cb, 0, none⟩ (.pointer (some ⟨kb, 0, none⟩))) w.heap.size p ls (newT p) cb x) := NT.done (by omega) HN1.out b5 hul.out HS0.out hgk
      have h5 := HN1.out.step b5
      have HB : Hid (Below w.heap.size w (w5.setCell ⟨cb, 0, none⟩ (.pointer (some ⟨kb, 0, none⟩)))) := by
        have := HW.out _ _ _ _ h5
        exact this.setCell (by show _ ≤ cb; omega) _
      have c0 := h5.blk.cs.1
      have f0 := h5.blk.free 0
      clear h5 hgk HN1 k0 k1 k2 k3 HNw
      go_wp2_with fail
      go_ret2
      obtain ⟨x, hx⟩ := HD.out
      exact ⟨Or.inl ⟨HE.out.trans HZ.out, cb, x, rfl, hx⟩, HB.out⟩
theorem tbnew_any (p : PD) (vc vs vw lv : Value) (ls : List (List S3)) (w : World) (hfm : Forms w) (hP : Pln w vc vs vw p) (hl : Spl w lv ls) :
    Calls Tryd.prog 22 #[plV vc p.ticks vs vw, lv] w fun e w' => TbQ w p ls e w' := by
  obtain ⟨la, lc, rfl⟩ := hl.form
  by_cases h4 : 4 < ls.length
  · exact tbnew_many p vc vs vw la lc ls w hP h4
  · by_cases h0 : ls.length = 0
    · obtain rfl := List.eq_nil_of_length_eq_zero h0
      exact tbnew_none p vc vs vw la lc w hP
    · exact tbnew_mid p vc vs vw la lc ls w hfm hP hl (by omega) (by omega)
end Go.Proofs.YtfconbblnmbnpafDoor
namespace Go.Proofs.YtfconbblnmbnpafDoor
open Go.RowKit

set_option maxRecDepth 100000 in
set_option maxHeartbeats 2000000 in
theorem tbask_any (p : PD) (ls : List (List S3)) (d : TbD) (cb base : Nat) (x : TW) (i : Int) (w : World) (h : GT w base p ls d cb x) :
    Calls Tryd.prog 24 #[.pointer (some ⟨cb, 0, none⟩), .int .i64 i] w fun e w' => e = .returned (wErr (askE ls i)) ∧ GT w' base p ls (askT ls d i) cb x ∧ KTouch (x.F cb) w w' := by
  obtain ⟨ao, cap, hlv⟩ := h.lists.here.form
  have c2 := h.c2
  rw [hlv] at c2
  have c4 := h.c4
  have f4 := h.f4
  by_cases h0 : i < 0
  · have he : askE ls i = 1 := by
      unfold askE
      rw [if_pos (Or.inl h0)]
    have hd : askT ls d i = d := by
      unfold askT
      rw [he, if_neg (by decide)]
    rw [he, hd]
    have h0' : decide (i < 0) = true := decide_eq_true h0
    have H : Hid (GT w base p ls d cb x) := h
    clear h he hd h0
    go_enter Tryd.func24, Tryd.ntmps24
    go_wp2
    go_ret
    exact ⟨rfl, H.out, KTouch.refl _ _⟩
  · have h0' : decide (i < 0) = false := decide_eq_false h0
    by_cases h1 : (ls.length : Int) ≤ i
    · have he : askE ls i = 1 := by
        unfold askE
        rw [if_pos (Or.inr h1)]
      have hd : askT ls d i = d := by
        unfold askT
        rw [he, if_neg (by decide)]
      rw [he, hd]
      have h1' : decide ((ls.length : Int) ≤ i) = true := decide_eq_true h1
      have H : Hid (GT w base p ls d cb x) := h
      clear h he hd h0
      go_enter Tryd.func24, Tryd.ntmps24
      go_wp2
      go_ret
      exact ⟨rfl, H.out, KTouch.refl _ _⟩
    · have h1' : decide ((ls.length : Int) ≤ i) = false := decide_eq_false h1
      have he : askE ls i = 0 := by
        unfold askE
        rw [if_neg (by omega)]
      obtain ⟨n, rfl⟩ : ∃ n : Nat, i = n := ⟨i.toNat, by omega⟩
      have hd : askT ls d n = ⟨d.k, d.now, n⟩ := by
        unfold askT
        rw [he, if_pos rfl, Int.toNat_natCast]
      have h1'' : decide (ls.length ≤ n) = false := decide_eq_false (by omega)
      rw [he, hd]
      have H : Hid (GT w base p ls d cb x) := h
      clear h he hd h0 h1
      go_enter Tryd.func24, Tryd.ntmps24
      go_wp2
      go_ret
      exact ⟨rfl, H.out.asked n, KTouch.set w (x.mem0 cb) _ _⟩
set_option maxRecDepth 100000 in
set_option maxHeartbeats 2000000 in
theorem tbnow_any (p : PD) (ls : List (List S3)) (d : TbD) (cb base : Nat) (x : TW) (w : World) (h : GT w base p ls d cb x) (hn0 : 1 ≤ p.ticks) (hn1 : p.ticks ≤ 40) (ht : 0 ≤ d.k.time) :
    Calls Tryd.prog 25 #[.pointer (some ⟨cb, 0, none⟩)] w fun e w' => e = .returned (.int .i64 (countT p d : Nat)) ∧ Below w.heap.size w w' := by
  have HT : Hid (∀ nq, Calls Tryd.prog 49 #[.pointer (some ⟨x.kb, 0, none⟩)] (w.drewN nq) fun e w' => e = .returned (.int .i64 d.k.time) ∧ ∃ n, w' = (w.drewN nq).drewN n) := fun nq => gtime_any _ d.k x.kb base x.a _ (h.k.all (below_dN (Below.refl _ w) nq))
  have hcnt : countT p d = if d.k.time % p.ticks = 0 then d.next else d.now := rfl
  have c0 := h.c0
  have c1 := h.c1
  have c3 := h.c3
  have c4 := h.c4
  clear h
  generalize countT p d = m at hcnt ⊢
  generalize d.k.time = t at *
  generalize p.ticks = n at *
  by_cases hr : t % n = 0
  · rw [if_pos hr] at hcnt
    subst hcnt
    have hr' : (t % n == 0) = true := by simpa using hr
    clear hr
    go_enter Tryd.func25, Tryd.ntmps25
    go_upto_region 1 with fail
    go_quiet ((go_at_call 49; exact Calls.quiet_of (HT.out _)))
    go_wp2_with fail
    go_ret
    exact ⟨rfl, below_dN (Below.refl _ _) _⟩
  · rw [if_neg hr] at hcnt
    subst hcnt
    have hr' : (t % n == 0) = false := by simpa using hr
    clear hr
    go_enter Tryd.func25, Tryd.ntmps25
    go_upto_region 1 with fail
    go_quiet ((go_at_call 49; exact Calls.quiet_of (HT.out _)))
    go_wp2_with fail
    go_ret
    exact ⟨rfl, below_dN (Below.refl _ _) _⟩
end Go.Proofs.YtfconbblnmbnpafDoor
namespace Go.Proofs.YtfconbblnmbnpafDoor
open Go.RowKit

theorem listN_at {ls : List (List S3)} {n : Nat} {l : List S3} (h : ls[n]? = some l) : listN ls n = l := by
  unfold listN
  simp [List.getD, h]
set_option maxRecDepth 100000 in
set_option maxHeartbeats 8000000 in
theorem tbcount_any (p : PD) (ls : List (List S3)) (d : TbD) (cb base : Nat) (x : TW) (n : Nat) (w : World) (h : GT w base p ls d cb x) (hbw : base ≤ w.heap.size) (hz : tabE p ls = 0) (hok : TOk p ls d) (hn : n < ls.length) :
    Calls Tryd.prog 48 #[.pointer (some ⟨cb, 0, none⟩), .int .i64 (n : Nat)] w fun e w' => (∃ v, e = .returned v) ∧ ∃ a', GT w' base p ls ⟨d.k, n, d.next⟩ cb { x with a := a' } ∧ KTouch (x.F cb) w w' ∧ ∀ g ∈ a'.F x.kb, g ∈ x.a.F x.kb ∨ w.heap.size ≤ g := by
  have c0 := h.c0
  have c3 := h.c3
  have H : Hid (GT w base p ls d cb x) := h
  by_cases hnow : n = d.now
  · subst hnow
    have hq : ((d.now : Int) != (d.now : Int)) = false := by simp
    have hq2 : ((d.now : Int) == (d.now : Int)) = true := by simp
    clear h hok hz hn c0
    go_enter Tryd.func48, Tryd.ntmps48
    go_upto_region 0 with fail
    go_quiet (fail)
    go_wp2_with fail
    first | go_end0 | ((try simp only [Exit.inBlock, Exit.then]); refine bodyPost_ret (results_none rfl _ _ _) rfl ?_)
    exact ⟨⟨_, rfl⟩, x.a, H.out.all (below_dN (Below.refl _ _) _), KTouch.of (below_dN (Below.refl _ _) _), fun g hg => Or.inl hg⟩
  · have hneI : (n : Int) ≠ (d.now : Int) := by omega
    have hq : ((n : Int) != (d.now : Int)) = true := bne_iff_ne.2 hneI
    have hq2 : ((n : Int) == (d.now : Int)) = false := beq_eq_false_iff_ne.2 hneI
    have hq3 : (n != d.now) = true := bne_iff_ne.2 hnow
    have hq4 : (n == d.now) = false := beq_eq_false_iff_ne.2 hnow
    have hni : (n : Int) < (ls.length : Int) := by omega
    have hspl := h.lists.here
    obtain ⟨ao, cap, hlv⟩ := hspl.form
    rw [hlv] at hspl
    obtain ⟨b, off, u, g, l, rfl, hblt, hl, hcell, hsps⟩ := hspl.at hn
    have hln := listN_at hl
    have hkm : x.kb ∈ x.a.F x.kb := by simp [GW.F]
    have hbk : b ≠ x.kb := fun e => h.ap.2.2 b (h.lb b off _ _ hlv) (by rw [e]; exact hkm)
    have hck : cb ≠ x.kb := fun e => h.ap.2.1 (by rw [e]; exact hkm)
    have c2 := h.c2
    rw [hlv] at c2
    have hcl := h.lt.1
    have hpz : plchk (withS p l) = 0 := (tabE_zero hz).2.2 _ (List.mem_of_getElem? hl)
    have bD : Below w.heap.size w w.drew := (Below.refl _ _).drew
    have HU : Hid (Calls Tryd.prog 73 #[.pointer (some ⟨x.kb, 0, none⟩), .slice u l.length g] w.drew fun e w' => e = .returned .nilIface ∧ ∃ a', GK w' base (withS p l) d.k x.kb a' ∧ KTouch [x.kb] w.drew w' ∧ ∀ g ∈ a'.F x.kb, g ∈ x.a.F x.kb ∨ w.drew.heap.size ≤ g) := guse_ok (withS p (listN ls d.now)) d.k x.kb base x.a l _ w.drew (h.k.all bD) hbw (hsps.all bD) hpz (hok.k.withS _)
    have HLN : Hid (listN ls n = l) := hln
    have hS : ∀ W, KTouch [x.kb] w W → W.cell? ⟨cb, 0, none⟩ = some (.pointer (some ⟨x.kb, 0, none⟩)) ∧ W.cell? ⟨cb, 2, none⟩ = some (.slice (some ⟨b, off, none⟩) ls.length cap) ∧ W.cell? ⟨cb, 3, none⟩ = some (.int .i64 (d.now : Nat)) ∧ W.cell? ⟨b, off + n, none⟩ = some (.slice u l.length g) := fun W ht => by
      have b1 := ht.block cb hcl (by simpa using hck)
      have b2 := ht.block b hblt (by simpa using hbk)
      exact ⟨(World.cell?_of_block (w := w) (a := ⟨cb, 0, none⟩) b1).trans c0, (World.cell?_of_block (w := w) (a := ⟨cb, 2, none⟩) b1).trans c2, (World.cell?_of_block (w := w) (a := ⟨cb, 3, none⟩) b1).trans c3, (World.cell?_of_block (w := w) (a := ⟨b, off + n, none⟩) b2).trans hcell⟩
    have HS : Hid (∀ W, KTouch [x.kb] w W → W.cell? ⟨cb, 0, none⟩ = some (.pointer (some ⟨x.kb, 0, none⟩)) ∧ W.cell? ⟨cb, 2, none⟩ = some (.slice (some ⟨b, off, none⟩) ls.length cap) ∧ W.cell? ⟨cb, 3, none⟩ = some (.int .i64 (d.now : Nat)) ∧ W.cell? ⟨b, off + n, none⟩ = some (.slice u l.length g)) := hS
    have S0 := HS.out w.drew (KTouch.of bD)
    clear h hok hz hspl hl hln hsps hpz hS hbk hlv hnow hneI
    go_enter Tryd.func48, Tryd.ntmps48
    go_upto_region 0 with fail
    go_cut [24] from 4 to 23 (fun s24 wx => s24 = .bool true ∧ ∃ a', GK wx base (withS p l) d.k x.kb a' ∧ KTouch [x.kb] w wx ∧ ∀ g ∈ a'.F x.kb, g ∈ x.a.F x.kb ∨ w.heap.size ≤ g)
    case first =>
      go_region_held3 (fun W => W.cell? ⟨cb, 0, none⟩ = some (.pointer (some ⟨x.kb, 0, none⟩)) ∧ W.cell? ⟨cb, 2, none⟩ = some (.slice (some ⟨b, off, none⟩) ls.length cap) ∧ W.cell? ⟨cb, 3, none⟩ = some (.int .i64 (d.now : Nat)) ∧ W.cell? ⟨b, off + n, none⟩ = some (.slice u l.length g))
        (first | exact S0 | exact S1 | go_keep)
        (first
          | (go_at_call 73; refine HU.out.mono ?_; rintro e w1 ⟨rfl, a', hg1, tk1, hn1⟩; have tk0 : KTouch [x.kb] w w1 := (KTouch.of bD).trans tk1; have S1 := HS.out w1 tk0))
      go_wp2_with fail
      go_meet
      case rel => exact ⟨rfl, a', hg1, tk0, hn1⟩
    case rest =>
    obtain ⟨rfl, a', hg1, tk0, hn1⟩ := hcut
    have hblk := tk0.block cb hcl (by simpa using hck)
    have k3 := (World.cell?_of_block (w := w) (a := ⟨cb, 3, none⟩) hblk).trans c3
    have g3 := (World.frozen?_of_block (w := w) (a := ⟨cb, 3, none⟩) hblk).trans H.out.f3
    have D : GT (wc.setCell ⟨cb, 3, none⟩ (.int .i64 (n : Nat))) base p ls ⟨d.k, n, d.next⟩ cb { x with a := a' } := H.out.count tk0 (by rw [HLN.out]; exact hg1) hn1
    have tkE : KTouch (x.F cb) w (wc.setCell ⟨cb, 3, none⟩ (.int .i64 (n : Nat))) := (tk0.mono (fun m hm => by rw [List.mem_singleton] at hm; subst hm; exact TW.mem2 hkm)).trans (KTouch.set _ (x.mem0 cb) _ _)
    clear hg1 tk0 c0 c2 c3 hcell S0 HU HS
    go_step
    go_wp2_with fail
    first | go_end0 | ((try simp only [Exit.inBlock, Exit.then]); refine bodyPost_ret (results_none rfl _ _ _) rfl ?_)
    exact ⟨⟨_, rfl⟩, a', D, tkE, hn1⟩
set_option maxRecDepth 100000 in
set_option maxHeartbeats 8000000 in
theorem tbtick_any (p : PD) (ls : List (List S3)) (d : TbD) (cb base : Nat) (x : TW) (w : World) (h : GT w base p ls d cb x) (hbw : base ≤ w.heap.size) (hfb : ∀ W, Below base w W → Forms W) (hz : tabE p ls = 0) (hok : TOk p ls d) (ht : d.k.time < 100000000) :
    Calls Tryd.prog 23 #[.pointer (some ⟨cb, 0, none⟩)] w fun e w' => e = .returned (evA (evT p ls d)) ∧ ∃ x', GT w' base p ls (tickT p ls d) cb x' ∧ KTouch (x.F cb) w w' ∧ ∀ g ∈ x'.F cb, g ∈ x.F cb ∨ w.heap.size ≤ g := by
  have hp := spanT_right hz hok
  obtain ⟨hn0, hn1, _⟩ := fchk_zero (plchk_zero hp).2.2.1
  have hlt := countT_lt hok
  have hB1 : Below w.heap.size w (w.alloc (.cells #[.int .i64 0, .int .i64 0, .int .i64 0, .int .i64 0] 45)) := (Below.refl _ w).alloc (Nat.le_refl _) _
  have hbox : EvB (w.alloc (.cells #[.int .i64 0, .int .i64 0, .int .i64 0, .int .i64 0] 45)) w.heap.size 0 0 0 0 := World.alloc_heap_new w _
  generalize hW1 : w.alloc (.cells #[.int .i64 0, .int .i64 0, .int .i64 0, .int .i64 0] 45) = W1 at hB1 hbox
  obtain ⟨t1, ht1⟩ : ∃ y, (evT p ls d).1 = y := ⟨_, rfl⟩
  obtain ⟨t2, ht2⟩ : ∃ y, (evT p ls d).2.1 = y := ⟨_, rfl⟩
  obtain ⟨t3, ht3⟩ : ∃ y, (evT p ls d).2.2.1 = y := ⟨_, rfl⟩
  obtain ⟨t4, ht4⟩ : ∃ y, (evT p ls d).2.2.2 = y := ⟨_, rfl⟩
  have hgo : evA (evT p ls d) = .agg #[.int .i64 t1, .int .i64 t2, .int .i64 t3, .int .i64 t4] := by
    unfold evA
    rw [ht1, ht2, ht3, ht4]
  have hek : evA (tickK (withS p (spanT p ls d)) (withS p (spanT p ls d)).spans d.k).2 = .agg #[.int .i64 t1, .int .i64 t2, .int .i64 t3, .int .i64 t4] := hgo
  rw [hgo]
  have D1 := h.all hB1
  have HN : Hid (Calls Tryd.prog 25 #[.pointer (some ⟨cb, 0, none⟩)] W1 fun e w' => e = .returned (.int .i64 (countT p d : Nat)) ∧ Below W1.heap.size W1 w') := tbnow_any p ls d cb base x W1 D1 hn0 hn1 hok.k.time
  have HC : Hid (∀ W, Below w.heap.size w W → Calls Tryd.prog 48 #[.pointer (some ⟨cb, 0, none⟩), .int .i64 (countT p d : Nat)] W fun e w' => (∃ v, e = .returned v) ∧ ∃ a', GT w' base p ls ⟨d.k, countT p d, d.next⟩ cb { x with a := a' } ∧ KTouch (x.F cb) W w' ∧ ∀ g ∈ a'.F x.kb, g ∈ x.a.F x.kb ∨ W.heap.size ≤ g) := fun W hb => tbcount_any p ls d cb base x _ W (h.all hb) (Nat.le_trans hbw hb.size) hz hok hlt
  have HK : Hid (∀ W a', KTouch (x.F cb) w W → GT W base p ls ⟨d.k, countT p d, d.next⟩ cb { x with a := a' } → Calls Tryd.prog 20 #[.pointer (some ⟨x.kb, 0, none⟩)] W fun e w' => e = .returned (.agg #[.int .i64 t1, .int .i64 t2, .int .i64 t3, .int .i64 t4]) ∧ ∃ a2, GT w' base p ls (tickT p ls d) cb { x with a := a2 } ∧ KTouch (a'.F x.kb) W w' ∧ ∀ g ∈ a2.F x.kb, g ∈ a'.F x.kb ∨ W.heap.size ≤ g) := fun W a' hb hg => by
    have q := gtick_any (withS p (spanT p ls d)) d.k x.kb base a' W (hfb W (hb.below h.fge hbw)) hg.k (Nat.le_trans hbw hb.size) hp (hok.k.withS _) ht
    refine q.mono ?_
    rintro e w' ⟨rfl, a2, h1, h2, h3⟩
    exact ⟨by rw [hek], a2, hg.kern h2 h1 h3, h2, h3⟩
  have HF : Hid (∀ g ∈ x.F cb, g < w.heap.size) := h.flt
  have HD1 : Hid (GT W1 base p ls d cb x) := D1
  clear h hok hz D1 hgo hek ht1 ht2 ht3 ht4 hfb hp hn0 hn1
  generalize countT p d = n at *
  go_enter Tryd.func23, Tryd.ntmps23
  go_upto_region 1 with fail
  have hs1 : W1.heap.size = w.heap.size + 1 := by rw [← hW1]; simp
  clear hW1
  go_upto_region 2 with (first
    | (go_at_call 25; refine HN.out.mono ?_; rintro e w1 ⟨rfl, b1⟩; have hB2 := hB1.trans (b1.mono hB1.size); have hx1 : EvB w1 w.heap.size 0 0 0 0 := (b1.block _ hbox.lt).trans hbox)
    | (go_at_call 48; refine (HC.out w1 hB2).mono ?_; rintro e w2 ⟨⟨v, rfl⟩, a1, hg2, tk2, hn2⟩))
  have hnf : w.heap.size ∉ x.F cb := fun hm => by have := HF.out _ hm; omega
  have hx2 : EvB w2 w.heap.size 0 0 0 0 := (tk2.block _ hx1.lt hnf).trans hx1
  have tkA : KTouch (x.F cb) w w2 := (KTouch.of hB2).trans tk2
  have q := HK.out w2 a1 tkA hg2
  have c2 := hg2.c0
  have hs12 : w.heap.size < w1.heap.size := hx1.lt
  have hs2 : w.heap.size < w2.heap.size := hx2.lt
  have hn2' : ∀ g ∈ a1.F x.kb, g ∈ x.a.F x.kb ∨ w.heap.size + 1 ≤ g := fun g hg => (hn2 g hg).imp id (fun e => by omega)
  have hnf2 : w.heap.size ∉ a1.F x.kb := fun hm => by
    rcases hn2' _ hm with e | e
    · exact hnf (TW.mem2 e)
    · omega
  have HN2 : Hid (∀ g ∈ a1.F x.kb, g ∈ x.a.F x.kb ∨ w.heap.size + 1 ≤ g) := hn2'
  clear hg2 tk2 hx1 HN HC HK hn2 hn2' hB2
  go_wp2_with (go_at_call 20; refine q.mono ?_; rintro e w6 ⟨rfl, a2, hg6, tk6, hn6⟩; clear q; have hev : EvB w6 w.heap.size 0 0 0 0 := (tk6.block w.heap.size hs2 hnf2).trans hx2; obtain ⟨v0, v1, v2, v3⟩ := hev.cs; obtain ⟨y0, y1, y2, y3⟩ := hev.fs)
  have tkE : KTouch [w.heap.size] w6 ((((w6.setCell ⟨w.heap.size, 0, none⟩ (.int .i64 t1)).setCell ⟨w.heap.size, 1, none⟩ (.int .i64 t2)).setCell ⟨w.heap.size, 2, none⟩ (.int .i64 t3)).setCell ⟨w.heap.size, 3, none⟩ (.int .i64 t4)) := (((KTouch.set w6 (by simp) 0 _).trans (KTouch.set _ (by simp) 1 _)).trans (KTouch.set _ (by simp) 2 _)).trans (KTouch.set _ (by simp) 3 _)
  have hnA : ∀ g ∈ a2.F x.kb, g ∈ x.a.F x.kb ∨ w.heap.size + 1 ≤ g := fun g hg => by
    rcases hn6 g hg with e | e
    · exact HN2.out g e
    · exact Or.inr (by omega)
  have hnew : ∀ g ∈ TW.F cb { x with a := a2 }, g ∈ x.F cb ∨ w.heap.size + 1 ≤ g := TW.new hnA
  have tk6' : KTouch (x.F cb) w w6 := by
    refine ⟨tk6.os.trans tkA.os, tk6.tape.trans tkA.tape, tk6.output.trans tkA.output, Nat.le_trans tkA.size tk6.size, fun k hk hm => ?_⟩
    refine (tk6.block k (Nat.lt_of_lt_of_le hk tkA.size) (fun hk2 => ?_)).trans (tkA.block k hk hm)
    rcases HN2.out k hk2 with e | e
    · exact hm (TW.mem2 e)
    · omega
  refine bodyPost_ret (v := .agg #[.int .i64 t1, .int .i64 t2, .int .i64 t3, .int .i64 t4]) ?_ rfl ⟨rfl, { x with a := a2 }, hg6.frame tkE (fun m hm => ?_), tk6'.more tkE (by simp), fun g hg => (hnew g hg).imp id (fun e => by omega)⟩
  · simp [results, Tryd.results23, go_sem, v0, v1, v2, v3]
  · rw [List.mem_singleton] at hm
    subst hm
    intro hm
    rcases hnew _ hm with e | e
    · exact hnf e
    · omega
end Go.Proofs.YtfconbblnmbnpafDoor
namespace Go.Proofs.YtfconbblnmbnpafDoor
open Go.RowKit

/-- Tables of package tables, made since w0, and all their blocks. -/
def KTb (w0 w : World) (p : PD) (ls : List (List S3)) (d : TbD) (cb : Nat) (F : List Nat) : Prop := ∃ x : TW, GT w w0.heap.size p ls d cb x ∧ F = x.F cb ∧ Below w0.heap.size w0 w
def gtab {G : World → Prop} (hG : ∀ w, G w → Forms w) (hall : ∀ w w', G w → Below w.heap.size w w' → G w') : TabC G where
  K := KTb
  all := hall
  since := fun ⟨_, _, _, hb⟩ => hb
  ge := fun ⟨_, h, hF, _⟩ g hg => by
    subst hF
    exact ⟨h.fge g hg, h.flt g hg⟩
  lower := fun h1 ⟨x, h, hF, hb⟩ => ⟨x, h.lower h1.size, hF, h1.trans (hb.mono h1.size)⟩
  frame := fun ⟨x, h, hF, hb⟩ ht hM => by
    subst hF
    exact ⟨x, h.frame ht (fun m hm => (hM m hm).1), rfl, hb.trans (ht.below (fun m hm => (hM m hm).2) hb.size)⟩
  new := fun p vc vs vw lv ls W hg hP hl hz => by
    refine (tbnew_any p vc vs vw lv ls W (hG W hg) hP hl).mono ?_
    rintro e w' ⟨⟨_, cb, x, rfl, h⟩ | ⟨hn, _⟩, hb⟩
    · exact ⟨cb, _, rfl, x, h, rfl, hb⟩
    · exact absurd hz hn
  no := fun p vc vs vw lv ls W hg hP hl hz => by
    refine (tbnew_any p vc vs vw lv ls W (hG W hg) hP hl).mono ?_
    rintro e w' ⟨⟨h0, _⟩ | ⟨_, x, rfl⟩, hb⟩
    · exact absurd h0 hz
    · exact ⟨x, rfl, hb⟩
  ask := fun {w0 W p ls d cb F} i ⟨x, h, hF, hb⟩ _ _ => by
    subst hF
    refine (tbask_any p ls d cb _ x i W h).mono ?_
    rintro e w' ⟨rfl, h1, h2⟩
    exact ⟨rfl, _, ⟨x, h1, rfl, hb.trans (h2.below h.fge hb.size)⟩, h2, fun g hg => Or.inl hg⟩
  tick := fun {w0 W p ls d cb F} hg ⟨x, h, hF, hb⟩ hz hok ht => by
    subst hF
    refine (tbtick_any p ls d cb w0.heap.size x W h hb.size (fun W2 hb2 => (hG w0 hg).all (hb.trans hb2)) hz hok ht).mono ?_
    rintro e w' ⟨rfl, x', h1, h2, h3⟩
    exact ⟨rfl, _, ⟨x', h1, rfl, hb.trans (h2.below h.fge hb.size)⟩, h2, h3⟩
  now := fun {w0 W p ls d cb F} ⟨x, h, _, _⟩ hz hok => by
    obtain ⟨hn0, hn1, _⟩ := fchk_zero (plchk_zero (spanT_right hz hok)).2.2.1
    exact tbnow_any p ls d cb _ x W h hn0 hn1 hok.k.time
end Go.Proofs.YtfconbblnmbnpafDoor
