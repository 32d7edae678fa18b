/-
  Package levels: Rings.
-/
import Derived.Test.YtbnliibgnnegeagDoorLevCR
import Derived.Test.YtbnliibgnnegeagDoorLvAh
import Derived.Test.YtbnliibgnnegeagDoorLvRing
import Derived.Test.YtbnliibgnnegeagDoorRowsI
import Derived.Deep.CutRange
import Derived.BigQuiet
namespace Go.Proofs.YtbnliibgnnegeagDoor
open Go.RowKit

set_option maxRecDepth 100000 in
set_option maxHeartbeats 4000000 in
theorem lvrings_bad (l : List W4) (v : Value) (w : World) (hl : Wrs w v l) (h : (wschk l).2 ≠ 0) :
    Calls Tryd.prog 8 #[v] w fun e w' => e = .returned (.tuple #[.slice none 0 0, .iface 53 (.int .i64 (wschk l).2)]) ∧ Below w.heap.size w w' := by
  have hq := lvall_bad l v w hl h
  obtain ⟨q, hq'⟩ : ∃ q, q = (wschk l).2 := ⟨_, rfl⟩
  rw [← hq'] at hq ⊢
  clear hq' h
  obtain ⟨ao, cap, rfl⟩ := hl.form
  clear hl
  go_enter Tryd.func8, Tryd.ntmps8
  go_wp2_with (go_at_call 16; refine hq.mono ?_; rintro e w1 ⟨rfl, b1⟩; clear hq)
  go_ret2
  exact ⟨rfl, b1.alloc b1.size _⟩
set_option maxRecDepth 100000 in
set_option maxHeartbeats 8000000 in
theorem lvrings_ok (l : List W4) (v : Value) (w : World) (hl : Wrs w v l) (h : (wschk l).2 = 0) :
    Calls Tryd.prog 8 #[v] w fun e w' => ∃ u, e = .returned (.tuple #[u, .nilIface]) ∧ Sts w' u (ringsL l) ∧ Below w.heap.size w w' := by
  have hq := lvall_ok l v w hl h
  obtain ⟨jj, hj, hy0, hy1, hy2⟩ := info_parts infoInts
  obtain ⟨ao, cap, rfl⟩ := hl.form
  clear hl h
  go_enter Tryd.func8, Tryd.ntmps8
  go_upto_region 4 with (go_at_call 16; refine hq.mono ?_; rintro e w1 ⟨u0, u1, u2, u3, u4, rfl, r0, r1, r2, r3, r4, b1⟩; clear hq; have hnew := ahs_new (t := 49) r0 r1 r2 r3 r4; obtain ⟨g0, e0, rfl, _⟩ := r0; obtain ⟨g1, e1, rfl, _⟩ := r1; obtain ⟨g2, e2, rfl, _⟩ := r2; obtain ⟨g3, e3, rfl, _⟩ := r3; obtain ⟨g4, e4, rfl, _⟩ := r4)
  have HB : Hid (Below w.heap.size w (w1.alloc (.cells #[.slice (some ⟨g0, 0, none⟩) (ahd l 0 5).length e0, .slice (some ⟨g1, 0, none⟩) (ahd l 1 5).length e1, .slice (some ⟨g2, 0, none⟩) (ahd l 2 5).length e2, .slice (some ⟨g3, 0, none⟩) (ahd l 3 5).length e3, .slice (some ⟨g4, 0, none⟩) (ahd l 4 5).length e4] 49))) := b1.alloc b1.size _
  have HA : Hid (Ahs (w1.alloc (.cells #[.slice (some ⟨g0, 0, none⟩) (ahd l 0 5).length e0, .slice (some ⟨g1, 0, none⟩) (ahd l 1 5).length e1, .slice (some ⟨g2, 0, none⟩) (ahd l 2 5).length e2, .slice (some ⟨g3, 0, none⟩) (ahd l 3 5).length e3, .slice (some ⟨g4, 0, none⟩) (ahd l 4 5).length e4] 49)) l w1.heap.size) := hnew
  clear hnew b1
  generalize w1.alloc (.cells #[.slice (some ⟨g0, 0, none⟩) (ahd l 0 5).length e0, .slice (some ⟨g1, 0, none⟩) (ahd l 1 5).length e1, .slice (some ⟨g2, 0, none⟩) (ahd l 2 5).length e2, .slice (some ⟨g3, 0, none⟩) (ahd l 3 5).length e3, .slice (some ⟨g4, 0, none⟩) (ahd l 4 5).length e4] 49) = wz at HB HA ⊢
  generalize w1.heap.size = kb at HA ⊢
  go_wp2
  go_loopw [6, 17] (fun s4 s5 wr => ∃ (a : Nat) (us : List Value), a ≤ 5 ∧ s5 = .int .i64 a ∧ RI wz wr (ringsTo l a) s4 us) (fun _ s5 _ => 5 - (intOf s5).toNat)
  case atStart => exact ⟨0, [], Nat.zero_le _, rfl, RI.first⟩
  case round =>
    rename World => wo
    obtain ⟨a, us, ha, rfl, hRI⟩ := hrel
    have HRI : Hid (RI wz wo (ringsTo l a) _ us) := hRI
    have hrl := ringsTo_len l a
    have hul5 : us.length ≤ 5 := by rw [hRI.len]; omega
    clear hrl
    by_cases ha5 : a < 5
    · have hai : (a : Int) < 5 := by omega
      have hbz := hRI.bw
      have hq := lvring_any l kb a wo (HA.out.below hbz) ha5
      clear hRI
      have hgp := grp_pos l ha5
      obtain ⟨z, hz⟩ : ∃ z, (grp l a)[0]? = some z := ⟨(grp l a)[0], List.getElem?_eq_getElem hgp⟩
      have HZ : Hid ((grp l a)[0]? = some z) := hz
      have hgl : (grp l a).length ≤ 5 := grpTo_len l a 5
      have hld : (z == (a : Int)) = lead l a := by
        unfold lead
        rw [hz, Bool.eq_iff_iff]
        simp
      clear hz
      cases hlda : lead l a with
      | false =>
        rw [hlda] at hld
        have HY : Hid (ringsTo l (a + 1) = ringsTo l a) := ring_no hlda
        clear hlda
        go_wp2_with (go_at_call 17; refine hq.mono ?_; rintro e wr ⟨gb, gcap, rfl, own, hB⟩; clear hq; have c0 := (own_cap own).2.2.2.2.1 0 _ (ints_at HZ.out))
        go_roundw
        case rel => exact ⟨a + 1, us, by omega, by go_num, by rw [HY.out]; exact HRI.out.below hB⟩
        case measure => simp [intOf]; omega
      | true =>
        rw [hlda] at hld
        have HY : Hid (ringsTo l (a + 1) = ringsTo l a ++ [grp l a]) := ring_yes hlda
        clear hlda
        go_upto_region 10 with (go_at_call 17; refine hq.mono ?_; rintro e wr ⟨gb, gcap, rfl, own, hB⟩; clear hq; have c0 := (own_cap own).2.2.2.2.1 0 _ (ints_at HZ.out))
        have HO : Hid (wr.ownsRow wz.heap.size 3 1 (.slice (some ⟨gb, 0, none⟩) (grp l a).length gcap) (grp l a).length (ints (grp l a))) := own_base own HRI.out.bw.size
        have HR2 : Hid (RI wz wr (ringsTo l a) _ us) := HRI.out.below hB
        have hszr := HR2.out.bw.size
        clear own
        go_wp2_with (at_builtin; refine wpList_append_at _ rfl _ _ 25 rfl wz.heap.size 26 jj _ 1 24 Tryd.underlying25 hj hy0 hy1 hy2 rfl (by decide) _ _ _ rfl (HR2.out.own.alloc _) ⟨wr.heap.size, 0, none⟩ 1 1 [.slice (some ⟨gb, 0, none⟩) (grp l a).length gcap] rfl rfl ?c1A ?c2A ?c3A ?c4A ?c5A ?_)
        case c1A => exact one_new_at rfl _ _
        case c2A => intro u hu; simp at hu; subst hu; rfl
        case c3A => unfold maxLen; omega
        case c4A => omega
        case c5A => simp; omega
        intro v1 w8 own8 hg8 hnw8
        have HM : Hid (RI wz w8 (ringsTo l (a + 1)) v1 (us ++ [.slice (some ⟨gb, 0, none⟩) (grp l a).length gcap])) := by
          show RI _ _ _ _ _
          rw [HY.out]
          exact RI.more HR2.out HO.out ((Below.refl _ _).alloc (Nat.le_refl _) _) own8 hg8
        clear own8 hg8 hnw8 HO HR2
        go_wp2
        go_roundw
        case rel => exact ⟨a + 1, _, by omega, by go_num, HM.out⟩
        case measure => simp [intOf]; omega
    · have hae : a = 5 := by omega
      subst hae
      clear hRI
      go_wp2
      go_ret2
      exact ⟨_, rfl, HRI.out.sts, HB.out.trans (HRI.out.bw.mono HB.out.size)⟩
/-- Rings, as it was promised. -/
theorem lev_rings (G : World → Prop) : LevRings G := fun l v W _ hl => by
  by_cases h : (wschk l).2 = 0
  · refine (lvrings_ok l v W hl h).mono ?_
    rintro e w' ⟨u, rfl, h1, h2⟩
    refine ⟨u, by rw [h]; rfl, ?_, h2⟩
    unfold ringsE
    rw [if_pos h]
    exact h1
  · refine (lvrings_bad l v W hl h).mono ?_
    rintro e w' ⟨rfl, h2⟩
    refine ⟨_, by rw [wErr_not h], ?_, h2⟩
    unfold ringsE
    rw [if_neg h]
    exact Or.inl ⟨rfl, _, _, rfl⟩
end Go.Proofs.YtbnliibgnnegeagDoor
