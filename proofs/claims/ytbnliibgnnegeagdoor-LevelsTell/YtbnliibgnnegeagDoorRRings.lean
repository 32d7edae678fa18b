/-
  frameref2.Rings: groups of rooms, by the document.
-/
import Derived.Test.YtbnliibgnnegeagDoorRowsI
import Derived.Test.YtbnliibgnnegeagDoorWaysL
import Derived.Deep.CutRange
import Derived.BigQuiet
namespace Go.Proofs.YtbnliibgnnegeagDoor
open Go.RowKit

set_option maxRecDepth 100000 in
set_option maxHeartbeats 8000000 in
theorem rrings_any (l : List W4) (v : Value) (w : World) (hl : Wrs w v l) (hlen : l.length ≤ 12) (hok : ∀ x ∈ l, w4chk x = 0) :
    Calls Tryd.prog 6 #[v] w fun e w' => ∃ u, e = .returned u ∧ Sts w' u (ringsL l) ∧ Below w.heap.size w w' := by
  have q1 := ways_any l v w hl hlen hok
  obtain ⟨ii, hi, hz0, hz1, hz2⟩ := info_parts infoInt
  obtain ⟨jj, hj, hy0, hy1, hy2⟩ := info_parts infoInts
  obtain ⟨va, vc, rfl⟩ := hl.form
  clear hl hok
  go_enter Tryd.func6, Tryd.ntmps6
  go_wp2_with (first
    | (go_at_call 13; refine q1.mono ?_; rintro e w1 ⟨rfl, b1⟩; clear q1)
    | (refine wpList_store_mid rfl 39 _ _ rfl w1.heap.size 0 (wayCells l).toArray rfl rfl (there_new w1 39) (by kernel_rfl) (way_one l) ?_; rw [show (wayCells l).toArray.toList = wayCells l from rfl]; have cz := fun (i k : Nat) (hi : i < 5) (hk : k < 5) => ways_cell w1 l 39 hi hk; have Bz := below_cells (b1.alloc b1.size (.cells z25 39)) b1.size (wayCells l) 0; have sz : w1.heap.size + 1 ≤ ((w1.alloc (.cells z25 39)).setCells w1.heap.size 0 (wayCells l)).heap.size := (by have := (below_cells (Below.refl w1.heap.size (w1.alloc (.cells z25 39))) (Nat.le_refl _) (wayCells l) 0).size; rw [World.size_alloc] at this; exact this); unfold z25 at cz Bz sz; generalize World.setCells _ w1.heap.size 0 (wayCells l) = wz at cz Bz sz ⊢; have HZ : Hid (∀ W, Below wz.heap.size wz W → ∀ i k : Nat, i < 5 → k < 5 → W.cell? ⟨w1.heap.size, i * 5 + k, none⟩ = some (.bool (way l i k))) := fun W hb i k hi hk => (hb.cell (p := ⟨w1.heap.size, i * 5 + k, none⟩) (show w1.heap.size < wz.heap.size by omega)).trans (cz i k hi hk); clear cz))
  have HB : Hid (Below w.heap.size w wz) := Bz
  generalize w1.heap.size = wb at HZ
  clear Bz sz b1
  go_loopw [4, 5] (fun s4 s5 wr => ∃ (a : Nat) (us : List Value), a ≤ 5 ∧ s5 = .int .i64 a ∧ RI wz wr (ringsTo l a) s4 us) (fun _ s5 _ => 5 - (intOf s5).toNat)
  case atStart => exact ⟨0, [], Nat.zero_le _, rfl, RI.first⟩
  case round =>
    rename World => wo
    obtain ⟨a, us, ha, rfl, hRI⟩ := hrel
    have HRI : Hid (RI wz wo (ringsTo l a) _ us) := hRI
    have hrl := ringsTo_len l a
    have hul5 : us.length ≤ 5 := by rw [hRI.len]; omega
    clear hrl
    by_cases ha5 : a < 5
    · have hai : (a : Int) < 5 := by omega
      clear hRI
      go_upto_region 8 with fail
      go_loopw [6, 7] (fun s6 s7 wr => ∃ k : Nat, k ≤ 5 ∧ s7 = .int .i64 k ∧ wr.ownsRow wo.heap.size 3 1 s6 (grpTo l a k).length (ints (grpTo l a k)) ∧ Below wo.heap.size wo wr) (fun _ s7 _ => 5 - (intOf s7).toNat)
      case atStart => exact ⟨0, Nat.zero_le _, rfl, World.ownsRow_nil _ _ _ _, Below.refl _ _⟩
      case round =>
        obtain ⟨k, hk, rfl, own, hB⟩ := hrel
        have hgl := grpTo_len l a k
        have bz := HRI.out.bw.trans (hB.mono HRI.out.bw.size)
        by_cases hk5 : k < 5
        · have hki : (k : Int) < 5 := by omega
          have z0 := HZ.out _ bz a k ha5 hk5
          have z1 := HZ.out _ bz k a hk5 ha5
          have hsz := hB.size
          cases h1' : way l a k with
          | false =>
            cases h2' : way l k a with
            | false =>
              rw [h1'] at z0
              rw [h2'] at z1
              have HY : Hid (grpTo l a (k + 1) = grpTo l a k) := grp_no (by simp [both, h1', h2'])
              clear h1' h2'
              go_wp2
              go_roundw
              case rel => exact ⟨k + 1, by omega, by go_num, by rw [HY.out]; exact own, hB⟩
              case measure => simp [intOf]; omega
            | true =>
              rw [h1'] at z0
              rw [h2'] at z1
              have HY : Hid (grpTo l a (k + 1) = grpTo l a k) := grp_no (by simp [both, h1', h2'])
              clear h1' h2'
              go_wp2
              go_roundw
              case rel => exact ⟨k + 1, by omega, by go_num, by rw [HY.out]; exact own, hB⟩
              case measure => simp [intOf]; omega
          | true =>
            cases h2' : way l k a with
            | false =>
              rw [h1'] at z0
              rw [h2'] at z1
              have HY : Hid (grpTo l a (k + 1) = grpTo l a k) := grp_no (by simp [both, h1', h2'])
              clear h1' h2'
              go_wp2
              go_roundw
              case rel => exact ⟨k + 1, by omega, by go_num, by rw [HY.out]; exact own, hB⟩
              case measure => simp [intOf]; omega
            | true =>
              rw [h1'] at z0
              rw [h2'] at z1
              have HY : Hid (grpTo l a (k + 1) = grpTo l a k ++ [(k : Int)]) := grp_yes (by simp [both, h1', h2'])
              clear h1' h2'
              go_wp2_with (at_builtin; refine wpList_append_own _ rfl _ _ 26 rfl wo.heap.size 3 ii (.int .i64 0) 1 8 Tryd.underlying26 hi hz0 hz1 hz2 rfl (by decide) _ _ _ rfl (own.alloc _) ⟨wr.heap.size, 0, none⟩ 1 1 [.int .i64 k] rfl rfl ?c1A ?c2A ?c3A ?c4A ?c5A ?_)
              case c1A => exact one_new_at rfl _ _
              case c2A => exact one_one k
              case c3A => unfold maxLen; omega
              case c4A => omega
              case c5A => simp; omega
              intro v1 w2 own2 hg1 _
              have hB2 : Below wo.heap.size wo w2 := (hB.alloc hB.size _).grown hg1 (by simp; omega) (fun j hj => (own.lt j hj).1)
              have HO : Hid (w2.ownsRow wo.heap.size 3 1 v1 (grpTo l a (k + 1)).length (ints (grpTo l a (k + 1)))) := by
                show World.ownsRow _ _ _ _ _ _ _
                rw [HY.out, ints_snoc, List.length_append]
                exact own2
              clear own own2 hg1
              go_wp2
              go_roundw
              case rel => exact ⟨k + 1, by omega, by go_num, HO.out, hB2⟩
              case measure => simp [intOf]; omega
        · have hke : k = 5 := by omega
          subst hke
          have hkf : decide ((((5 : Nat) : Int)) < 5) = false := decide_eq_false (by omega)
          have hm : ((a : Nat) : Int) ∈ grpTo l a 5 := (grpTo_mem l a 5 _).2 ⟨a, rfl, ha5, both_self l a⟩
          obtain ⟨z, hz⟩ : ∃ z, (grpTo l a 5)[0]? = some z := by
            cases hg : grpTo l a 5 with
            | nil => rw [hg] at hm; cases hm
            | cons y t => exact ⟨y, by simp⟩
          have hlp : 0 < (grpTo l a 5).length := (List.getElem?_eq_some_iff.1 hz).1
          obtain ⟨gb, gcap, rfl⟩ : ∃ gb gcap, u6 = Value.slice (some ⟨gb, 0, none⟩) (grpTo l a 5).length gcap := by
            rcases row_form own with ⟨_, h0⟩ | h1
            · omega
            · exact h1
          obtain ⟨hg1, hg2, _, _, hgc, _, _⟩ := own_cap own
          have c0 := hgc 0 _ (ints_at hz)
          have hld : (z == (a : Int)) = lead l a := by
            unfold lead grp
            rw [hz, Bool.eq_iff_iff]
            simp
          have HO : Hid (wr.ownsRow wz.heap.size 3 1 (.slice (some ⟨gb, 0, none⟩) (grp l a).length gcap) (grp l a).length (ints (grp l a))) := own_base own HRI.out.bw.size
          have HR2 : Hid (RI wz wr (ringsTo l a) _ us) := HRI.out.below hB
          have hszr := HR2.out.bw.size
          clear hgc hm own
          rw [show (grp l a).length = (grpTo l a 5).length from rfl] at HO
          cases hlda : lead l a with
          | false =>
            rw [hlda] at hld
            have HY : Hid (ringsTo l (a + 1) = ringsTo l a) := ring_no hlda
            clear hlda
            go_wp2
            go_roundw
            case rel => exact ⟨a + 1, us, by omega, by go_num, by rw [HY.out]; exact HR2.out⟩
            case measure => simp [intOf]; omega
          | true =>
            rw [hlda] at hld
            have HY : Hid (ringsTo l (a + 1) = ringsTo l a ++ [grp l a]) := ring_yes hlda
            clear hlda
            go_wp2_with (at_builtin; refine wpList_append_at _ rfl _ _ 25 rfl wz.heap.size 26 jj _ 1 24 Tryd.underlying25 hj hy0 hy1 hy2 rfl (by decide) _ _ _ rfl (HR2.out.own.alloc _) ⟨wr.heap.size, 0, none⟩ 1 1 [.slice (some ⟨gb, 0, none⟩) (grpTo l a 5).length gcap] rfl rfl ?c1A ?c2A ?c3A ?c4A ?c5A ?_)
            case c1A => exact one_new_at rfl _ _
            case c2A => intro u hu; simp at hu; subst hu; rfl
            case c3A => unfold maxLen; omega
            case c4A => omega
            case c5A => simp; omega
            intro v1 w8 own8 hg8 hnw8
            have HM : Hid (RI wz w8 (ringsTo l (a + 1)) v1 (us ++ [.slice (some ⟨gb, 0, none⟩) (grpTo l a 5).length gcap])) := by
              show RI _ _ _ _ _
              rw [HY.out]
              exact RI.more HR2.out HO.out ((Below.refl _ _).alloc (Nat.le_refl _) _) own8 hg8
            clear own8 hg8 hnw8 HO HR2
            go_wp2
            go_roundw
            case rel => exact ⟨a + 1, _, by omega, by go_num, HM.out⟩
            case measure => simp [intOf]; omega
    · have hae : a = 5 := by omega
      subst hae
      have hkf : decide ((((5 : Nat) : Int)) < 5) = false := decide_eq_false (by omega)
      clear hRI
      go_wp2
      go_ret
      exact ⟨_, rfl, HRI.out.sts, HB.out.trans (HRI.out.bw.mono HB.out.size)⟩
end Go.Proofs.YtbnliibgnnegeagDoor
