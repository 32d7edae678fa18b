/-
  The law FlowUp: of whatever input.
-/
import Derived.Test.YtpbdfcfifkonkacFUp2
import Derived.Test.YtpbdfcfifkonkacFUp3
namespace Go.Proofs.Ytpbdfcfifkonkac
open Go.RowKit

theorem up_any (l : List W4) (v u : Value) (lv : List Int) (a b c f t kd d : Int) (w : World) (hl : Wrs w v l) (hu : Stp w u lv) :
    Calls Try.prog 3 #[v, .int .i64 a, .int .i64 b, .int .i64 c, u, wV f t kd d] w fun e w' => e = .returned (.bool true) ∧ Below w.heap.size w w' := by
  have hf : ∃ ao n cap, u = .slice ao n cap := by
    obtain ⟨ao, cap, h⟩ := hu.form
    exact ⟨ao, _, cap, h⟩
  by_cases h1 : rchE l a b = 0
  · by_cases h2 : rchE l b c = 0
    · obtain ⟨hk, ha, hb⟩ := rchE_ok h1
      obtain ⟨_, _, hc⟩ := rchE_ok h2
      obtain ⟨a, rfl⟩ : ∃ n : Nat, a = n := ⟨a.toNat, by omega⟩
      obtain ⟨b, rfl⟩ : ∃ n : Nat, b = n := ⟨b.toNat, by omega⟩
      obtain ⟨c, rfl⟩ : ∃ n : Nat, c = n := ⟨c.toNat, by omega⟩
      have ha' : a < 5 := by omega
      have hb' : b < 5 := by omega
      have hc' : c < 5 := by omega
      by_cases hv : lvE l lv = 0
      · cases hx : way l a b with
        | false => exact up_F_ok l v u lv a b c f t kd d w hl hu hk ha' hb' hc' hx hv
        | true =>
          cases hy : way l b c with
          | false => exact up_TF_ok l v u lv a b c f t kd d w hl hu hk ha' hb' hc' hx hy hv
          | true => exact up_TTT_ok l v u lv a b c f t kd d w hl hu hk ha' hb' hc' hx hy hv
      · cases hx : way l a b with
        | false => exact up_F_no l v u lv a b c f t kd d w hl hu hk ha' hb' hc' hx hv
        | true =>
          cases hy : way l b c with
          | false => exact up_TF_no l v u lv a b c f t kd d w hl hu hk ha' hb' hc' hx hy hv
          | true => exact up_TTT_no l v u lv a b c f t kd d w hl hu hk ha' hb' hc' hx hy hv
    · exact up_second l v u a b c f t kd d w hl hf h1 h2
  · exact up_first l v u a b c f t kd d w hl hf h1
end Go.Proofs.Ytpbdfcfifkonkac
