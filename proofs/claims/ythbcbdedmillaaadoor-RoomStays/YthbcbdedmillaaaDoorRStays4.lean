/-
  The law RoomStays: of any code and any state.
-/
import Derived.Test.YthbcbdedmillaaaDoorRStays3
import Derived.Test.YthbcbdedmillaaaDoorStaysMath
namespace Go.Proofs.YthbcbdedmillaaaDoor
open Go.RowKit

theorem gchk_of {l : List O3} {s : St} {got : Int} {is : Bool} (h : rchk l s = 0) (hg : is = true → 0 ≤ got ∧ got ≤ 999) : gchk l s got is = 0 := by
  unfold gchk
  rw [if_pos h, if_neg]
  rintro ⟨hi, hb⟩
  have := hg hi
  omega
theorem stays_any (l : List O3) (v : Value) (s : St) (got : Int) (is : Bool) (other : Int) (w : World) (hf : Forms w) (hl : Ops w v l) :
    Calls Tryd.prog 6 #[v, stV s, .int .i64 got, .bool is, .int .i64 other] w fun ev w' => ev = .returned (.bool true) ∧ Below w.heap.size w w' := by
  by_cases hg : gchk l s got is = 0
  · obtain ⟨h0, h1⟩ := gchk_none hg
    obtain ⟨hc, hs⟩ := rchk_none h0
    obtain ⟨hl0, hl1, hl2⟩ := chk_zero hc
    obtain ⟨hp0, hp1, hp2⟩ := stOk_iff.1 hs
    obtain ⟨p, c, f⟩ := s
    simp only at hp0 hp1 hp2
    obtain ⟨k, rfl⟩ : ∃ k : Nat, p = k := ⟨p.toNat, by omega⟩
    have hkl : k < l.length := by omega
    obtain ⟨o, ho⟩ : ∃ o, l[k]? = some o := ⟨l[k], List.getElem?_eq_getElem hkl⟩
    have hget : l.getD (k : Int).toNat (0, 0, 0) = o := by simp [List.getD, ho]
    have hlv := hl
    rcases hl with ⟨rfl, _⟩ | ⟨b, off, cap, rfl, hlt, hcl⟩
    · exact absurd rfl hl0
    obtain ⟨c0, c1, c2⟩ := hcl k o ho
    have hok := hl2 o (List.mem_of_getElem? ho)
    have hr := ok3_range hok
    have hsm := ok3_small (by omega) hok
    have hio : (decide (0 ≤ other) && decide (other < 1000)) = true → 0 ≤ other ∧ other ≤ 999 := fun h => by
      simp only [Bool.and_eq_true, decide_eq_true_eq] at h
      omega
    have hB := fun W hf hl => rstep_any l (.slice (some ⟨b, off, none⟩) l.length cap) ⟨k, c, f⟩ got is W hf hl
    rw [show stepT l ⟨k, c, f⟩ got is = .tuple #[stV (stepF o ⟨k, c, f⟩ l.length got is), .int .i64 (sendF o ⟨k, c, f⟩), .nilIface] by unfold stepT; rw [if_pos hg]; simp only [hget]] at hB
    have hD := fun W hf hl => rstep_any l (.slice (some ⟨b, off, none⟩) l.length cap) ⟨k, c, f⟩ other (decide (0 ≤ other) && decide (other < 1000)) W hf hl
    rw [show stepT l ⟨k, c, f⟩ other (decide (0 ≤ other) && decide (other < 1000)) = .tuple #[stV (stepF o ⟨k, c, f⟩ l.length other (decide (0 ≤ other) && decide (other < 1000))), .int .i64 (sendF o ⟨k, c, f⟩), .nilIface] by unfold stepT; rw [if_pos (gchk_of h0 hio)]; simp only [hget]] at hD
    cases f with
    | true =>
      have hC := fun W hf hl => rcheck_any l (.slice (some ⟨b, off, none⟩) l.length cap) ⟨k, c, true⟩ W hf hl
      rw [h0] at hC
      exact rstays_failed l b off cap k c got other (-1) o.1 is w hf hlv hkl hlt c0 (by omega) (by omega) hB hC (fun _ => hD)
    | false =>
      have hxs : stOk ⟨nextF o ⟨k, c, false⟩ l.length is, cellsF o c got is, decide (o.1 = 11)⟩ l.length = true := by
        rw [stOk_iff]
        have hn := nextF_ok (o := o) (s := ⟨k, c, false⟩) (n := l.length) (is := is) hp0 hp1 (fun h => by
          have hB' : bB o.1 l.length = l.length := by simp only [bB]; rw [if_neg (by omega), if_neg (by omega), if_pos (by omega)]
          omega)
        refine ⟨hn.1, hn.2, cellsF_ok hp2 (fun _ => ⟨hsm.2.2.2.2.1, hsm.2.2.2.2.2⟩) (fun h => ?_) (fun hi => ?_)⟩
        · have hB' : bB o.1 l.length = 6 := by simp only [bB]; rw [if_neg (by omega), if_pos (by omega)]
          omega
        · have := h1 hi
          simp only [outB, decide_eq_false_iff_not] at this
          omega
      have hx0 : rchk l ⟨nextF o ⟨k, c, false⟩ l.length is, cellsF o c got is, decide (o.1 = 11)⟩ = 0 := by
        unfold rchk
        rw [if_pos hc, if_pos hxs]
      have hC := fun W hf hl => rcheck_any l (.slice (some ⟨b, off, none⟩) l.length cap) ⟨nextF o ⟨k, c, false⟩ l.length is, cellsF o c got is, decide (o.1 = 11)⟩ W hf hl
      rw [hx0] at hC
      have hso := sentF_ok (o := o) hp2 (by omega)
      refine rstays_ok l b off cap k o.2.1.toNat c (nextF o ⟨k, c, false⟩ l.length is) (cellsF o c got is) (decide (o.1 = 11)) got other (sentF o c) o.1 is w hf hlv hkl hlt c0 hso.1 hso.2 (fun i _ hi => cellsF_other i hi) (fun h i _ => by rw [cellsF_send (sentF_send h)]) hB hC (fun h9 W hf hl => ?_)
      have h9' : o.1 ≠ 9 := by simpa using h9
      have hd := hD W hf hl
      rw [show stepF o ⟨k, c, false⟩ l.length other (decide (0 ≤ other) && decide (other < 1000)) = ⟨nextF o ⟨k, c, false⟩ l.length is, cellsF o c got is, decide (o.1 = 11)⟩ by
        unfold stepF
        rw [if_neg (by simp), nextF_got (is' := is) h9', cellsF_got (got' := got) (is' := is) h9']] at hd
      exact hd
  · obtain ⟨ao, cap, rfl⟩ := hl.form
    exact rstays_err l ao cap s got other (gchk l s got is) is w hf hl hg (if_neg hg)
end Go.Proofs.YthbcbdedmillaaaDoor
