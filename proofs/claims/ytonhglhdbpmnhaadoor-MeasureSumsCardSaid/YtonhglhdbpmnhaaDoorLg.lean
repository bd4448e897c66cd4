/- Walk of the statement on chains of + and -. -/
import Derived.Test.YtonhglhdbpmnhaaDoorLe
namespace Go.Proofs.YtonhglhdbpmnhaaDoor
open Go.RowKit

theorem c20u (s : ByteArray) (hs : s.size ≤ 100000) (w : World) (hO : OpsAt w) :
    Calls Tryd.prog 20 #[.string s, .int .u8 117, .agg #[.int .i64 0, .int .i64 0, .int .i64 0]] w fun e w' => e = .returned (.tuple #[.int .i64 (prefixA s 117 0 0 0).1, .int .i64 (prefixA s 117 0 0 0).2.1, .int .i64 (prefixA s 117 0 0 0).2.2]) ∧ Below w.heap.size w w' :=
  c20 s hs 117 0 0 0 w hO
def R7 (len : Nat) (w : World) (v3 v4 v5 : Value) (wr : World) : Prop :=
  ∃ (i : Nat) (l : List (Bool × Nat)) (S : ByteArray), v5 = .int .i64 i ∧ v3 = .string S ∧ v4 = .int .i64 (chv 0 l) ∧ S.data.toList = 48 :: chs l ∧ l.length = i ∧ i ≤ len ∧ (∀ x ∈ l, x.2 < 1000000) ∧ Below w.heap.size w wr
theorem R7_next {len i : Nat} {l : List (Bool × Nat)} {S : ByteArray} {w w2 : World} {x : Int} (b : Bool) (c : UInt8) (hc : c = if b then 43 else 45) (hS : S.data.toList = 48 :: chs l) (hl : l.length = i) (hk : ∀ x ∈ l, x.2 < 1000000) (hlt : i < len) (h0 : 0 ≤ x) (h1 : x < 1000000)
    (hb : Below w.heap.size w w2) (y : Int) (hy : y = if b then chv 0 l + x else chv 0 l - x) : R7 len w (.string (S ++ ⟨#[c]⟩ ++ dg x)) (.int .i64 y) (.int .i64 ((i : Int) + 1)) w2 := by
  refine ⟨i + 1, l ++ [(b, x.toNat)], _, by simp, rfl, ?_, ?_, by simp [hl], by omega, ?_, hb⟩
  · rw [chv_app, hy]
    simp only [chv]
    rw [Int.toNat_of_nonneg h0]
  · rw [chs_app]
    simp only [ByteArray.data_append, Array.toList_append, hS, chs]
    subst hc
    simp [dg]
  · intro p hp
    rcases List.mem_append.1 hp with hp | hp
    · exact hk p hp
    · rw [List.mem_singleton] at hp
      subst hp
      show x.toNat < _
      omega
/-- 7: the statement, of a slice that is one. -/
theorem l7 (a : Addr) (len cap : Nat) (w : World) (hO : OpsAt w) (hlen : len ≤ maxLen) (hcell : ∀ i, i < len → ∃ z, w.cell? (a.add i) = some (.int .i64 z)) :
    Calls Tryd.prog 7 #[.slice (some a) len cap] w fun e w' => e = .returned (.bool true) ∧ Below w.heap.size w w' := by
  unfold maxLen at hlen
  by_cases h100 : len ≤ 100
  · have h100' : ¬ (100 : Int) < (len : Int) := by omega
    go_enter Tryd.func7, Tryd.ntmps7
    go_wp2
    go_loopw [3, 4, 5, 6] (fun v3 v4 v5 _ wr => R7 len w v3 v4 v5 wr) (fun _ _ v5 _ _ => len - (intOf v5).toNat)
    case atStart => exact ⟨0, [], ⟨#[48]⟩, rfl, rfl, rfl, rfl, rfl, Nat.zero_le _, by simp, Below.refl _ _⟩
    case round =>
      obtain ⟨i, l, S, rfl, rfl, rfl, hS, hl, hi, hk, hb⟩ := hrel
      have hbd := chv_bd 0 l hk
      have hcl := chs_len l hk
      have hSs : S.size = 1 + (chs l).length := by rw [size_list, hS, List.length_cons, Nat.add_comm]
      by_cases hlt : i < len
      · obtain ⟨z, hz⟩ := hcell i hlt
        have hz1 : wr.cell? (a.add i) = some (.int .i64 z) := by
          rw [← hz]
          exact hb.cell (cell_lt hz)
        have uk := urem z 1000000 (by omega)
        have sD := dg_size ((IntKind.u64.wrap z).tmod 1000000) (by omega)
        have H19 := Lib.hid (n19i ((IntKind.u64.wrap z).tmod 1000000) uk.1 (by omega) wr)
        go_wp2_with (first
          | (go_at_call 19; refine H19.out.mono ?_; rintro e w2 ⟨rfl, hb2⟩))
        · go_roundw
          case rel => exact R7_next true 43 rfl hS hl hk hlt uk.1 uk.2 (ntrans hb hb2) _ rfl
          case measure =>
            show len - ((i : Int) + 1).toNat < len - (i : Int).toNat
            omega
        · go_roundw
          case rel => exact R7_next false 45 rfl hS hl hk hlt uk.1 uk.2 (ntrans hb hb2) _ rfl
          case measure =>
            show len - ((i : Int) + 1).toNat < len - (i : Int).toNat
            omega
      · have h1 := chain_eval (s := S) (l := l) hS hk (by omega)
        have h2 := chain_prefix (s := S ++ ⟨#[32, 109, 111, 114, 101]⟩) (l := l) (t := [109, 111, 114, 101]) (by rw [ByteArray.data_append, Array.toList_append, hS]) hk (by omega)
        have h18 := fun w hO => c18u S (by omega) w hO
        have h20 := fun w hO => c20u (S ++ ⟨#[32, 109, 111, 114, 101]⟩) (by rw [ByteArray.size_append, hSs, ByteArray.size_mk']; simp; omega) w hO
        rw [h1] at h18
        rw [h2] at h20
        simp only at h18 h20
        rw [← hSs] at h20
        have H18 := Lib.hid h18
        have H20 := Lib.hid h20
        clear h1 h2 h18 h20
        have hO1 := hO.below hb
        go_wp2_with (first
          | (go_at_call 18; refine (H18.out _ hO1).mono ?_; rintro e v1 ⟨rfl, hv1⟩; have hO2 := hO1.below hv1)
          | (go_at_call 20; refine (H20.out _ hO2).mono ?_; rintro e v2 ⟨rfl, hv2⟩; have hO3 := hO2.below hv2)
          | (go_at_call 9; refine (l9 _ hO3).mono ?_; rintro e v3 ⟨rfl, hv3⟩))
        go_ret
        exact ⟨rfl, ntrans (ntrans (ntrans hb hv1) hv2) hv3⟩
  · have h100' : (100 : Int) < (len : Int) := by omega
    go_enter Tryd.func7, Tryd.ntmps7
    go_wp2_with (first
      | (go_at_call 9; refine (l9 _ hO).mono ?_; rintro e w1 ⟨rfl, hb1⟩))
    go_ret
    exact ⟨rfl, hb1⟩
/-- 7: the statement, of no slice. -/
theorem l7n (w : World) (hO : OpsAt w) : Calls Tryd.prog 7 #[.slice none 0 0] w fun e w' => e = .returned (.bool true) ∧ Below w.heap.size w w' := by
  have h1 := chain_eval (s := ⟨#[48]⟩) (l := []) rfl (by simp) (by simp)
  have h2 := chain_prefix (s := ⟨#[48, 32, 109, 111, 114, 101]⟩) (l := []) (t := [109, 111, 114, 101]) rfl (by simp) (by simp)
  have h18 := fun w hO => c18u ⟨#[48]⟩ (by decide) w hO
  have h20 := fun w hO => c20u ⟨#[48, 32, 109, 111, 114, 101]⟩ (by decide) w hO
  rw [h1] at h18
  rw [h2] at h20
  have H18 : Hid (∀ w, OpsAt w → Calls Tryd.prog 18 #[.string ⟨#[48]⟩, .int .u8 117, .agg #[.int .i64 0, .int .i64 0, .int .i64 0]] w fun e w' => e = .returned (.tuple #[.int .i64 0, .int .i64 0]) ∧ Below w.heap.size w w') := Lib.hid h18
  have H20 : Hid (∀ w, OpsAt w → Calls Tryd.prog 20 #[.string ⟨#[48, 32, 109, 111, 114, 101]⟩, .int .u8 117, .agg #[.int .i64 0, .int .i64 0, .int .i64 0]] w fun e w' => e = .returned (.tuple #[.int .i64 0, .int .i64 1, .int .i64 0]) ∧ Below w.heap.size w w') := Lib.hid h20
  clear h1 h2 h18 h20
  go_enter Tryd.func7, Tryd.ntmps7
  go_wp2
  go_loopw [3, 4, 5, 6] (fun v3 v4 v5 _ wr => v3 = .string ⟨#[48]⟩ ∧ v4 = .int .i64 0 ∧ v5 = .int .i64 0 ∧ wr = w) (fun _ _ _ _ _ => 0)
  case atStart => exact ⟨rfl, rfl, rfl, rfl⟩
  case round =>
    obtain ⟨rfl, rfl, rfl, rfl⟩ := hrel
    go_wp2_with (first
      | (go_at_call 18; refine (H18.out _ hO).mono ?_; rintro e v1 ⟨rfl, hv1⟩; have hO2 := hO.below hv1)
      | (go_at_call 20; refine (H20.out _ hO2).mono ?_; rintro e v2 ⟨rfl, hv2⟩; have hO3 := hO2.below hv2)
      | (go_at_call 9; refine (l9 _ hO3).mono ?_; rintro e v3 ⟨rfl, hv3⟩))
    go_ret
    exact ⟨rfl, ntrans (ntrans hv1 hv2) hv3⟩
theorem l7v (v : Value) (w : World) (hO : OpsAt w) (hv : Ints w v) : Calls Tryd.prog 7 #[v] w fun e w' => e = .returned (.bool true) ∧ Below w.heap.size w w' := by
  rcases hv with rfl | ⟨a, len, cap, rfl, hl, hm, hc⟩
  · exact l7n w hO
  · exact l7 a len cap w hO (Nat.le_trans hl hm) fun i hi => by
      obtain ⟨z, hz, _⟩ := hc i hi
      exact ⟨z, hz⟩
end Go.Proofs.YtonhglhdbpmnhaaDoor
