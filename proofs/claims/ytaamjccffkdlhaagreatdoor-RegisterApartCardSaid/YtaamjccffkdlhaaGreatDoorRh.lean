/- Walk: roman numerals, the document's. -/
import Derived.Test.YtaamjccffkdlhaaGreatDoorRg
namespace Go.Proofs.YtaamjccffkdlhaaGreatDoor
open Go.RowKit

abbrev valA : Array Value := #[.int .i64 1000, .int .i64 900, .int .i64 500, .int .i64 400, .int .i64 100, .int .i64 90, .int .i64 50, .int .i64 40, .int .i64 10, .int .i64 9, .int .i64 5, .int .i64 4, .int .i64 1]
abbrev txtA : Array Value := #[.string ⟨#[109]⟩, .string ⟨#[99, 109]⟩, .string ⟨#[100]⟩, .string ⟨#[99, 100]⟩, .string ⟨#[99]⟩, .string ⟨#[120, 99]⟩, .string ⟨#[108]⟩, .string ⟨#[120, 108]⟩, .string ⟨#[120]⟩, .string ⟨#[105, 120]⟩, .string ⟨#[118]⟩, .string ⟨#[105, 118]⟩, .string ⟨#[105]⟩]
theorem val_at : ∀ (k : Nat), k < 13 → valA[k]? = some (.int .i64 (rmV k)) ∧ txtA[k]? = some (.string (rmS k))
  | 0, _ | 1, _ | 2, _ | 3, _ | 4, _ | 5, _ | 6, _ | 7, _ | 8, _ | 9, _ | 10, _ | 11, _ | 12, _ => ⟨rfl, rfl⟩
  | k + 13, h => absurd h (by omega)
def RNo (n : Nat) (v0 v5 v6 : Value) : Prop :=
  ∃ (k m : Nat) (S : ByteArray), k ≤ 13 ∧ v6 = .int .i64 k ∧ v0 = .int .i64 m ∧ v5 = .string S ∧ m ≤ n ∧ romL n = S.data.toList ++ rmn (rmTab.drop k) m
def RNi (n k : Nat) (v0 v5 : Value) : Prop :=
  ∃ (m : Nat) (S : ByteArray), v0 = .int .i64 m ∧ v5 = .string S ∧ m ≤ n ∧ romL n = S.data.toList ++ rmn (rmTab.drop k) m
set_option maxRecDepth 100000 in
/-- The document's roman. -/
theorem nRom (n : Nat) (hn : n ≤ 39999) (w : World) :
    Calls Tryz.prog 84 #[.int .i64 n] w fun e w' => e = .returned (.string ⟨(romL n).toArray⟩) ∧ Below w.heap.size w w' := by
  go_enter Tryz.func84, Tryz.ntmps84
  go_wp2_with fail
  have hV := (Blk.new w 3 valA).alloc (.cells txtA 9)
  have hT : Blk ((w.alloc (.cells valA 3)).alloc (.cells txtA 9)) (w.heap.size + 1) 9 txtA := by
    have := Blk.new (w.alloc (.cells valA 3)) 9 txtA
    simpa using this
  have hb : Below w.heap.size w ((w.alloc (.cells valA 3)).alloc (.cells txtA 9)) := ((Below.refl _ _).alloc (Nat.le_refl _) _).alloc (by simp) _
  generalize (w.alloc (.cells valA 3)).alloc (.cells txtA 9) = wo at hV hT hb ⊢
  have hcv : ∀ k, k < 13 → wo.cell? ⟨w.heap.size, k, none⟩ = some (.int .i64 (rmV k)) := fun k hk => (hV.cell k).trans (val_at k hk).1
  have hct : ∀ k, k < 13 → wo.cell? ⟨w.heap.size + 1, k, none⟩ = some (.string (rmS k)) := fun k hk => (hT.cell k).trans (val_at k hk).2
  have HV := Lib.hid hcv
  have HT := Lib.hid hct
  clear hV hT hcv hct
  go_loop [0, 5, 6] (fun v0 v5 v6 => RNo n v0 v5 v6) (fun _ _ v6 => 13 - (intOf v6).toNat)
  case atStart => exact ⟨0, n, ⟨#[]⟩, by omega, rfl, rfl, rfl, Nat.le_refl _, by simp [romL]⟩
  case round =>
    obtain ⟨k, m, S, hk, rfl, rfl, rfl, hmn, hd⟩ := hrel
    have HD := Lib.hid hd
    clear hd
    by_cases hk13 : k < 13
    · obtain ⟨f1, f2, f3⟩ := rm_fact hk13
      have c0 := HV.out k hk13
      have c1 := HT.out k hk13
      go_wp2_with fail
      go_loop [0, 5] (fun v0 v5 => RNi n k v0 v5) (fun v0 _ => (intOf v0).toNat)
      case atStart => exact ⟨m, S, rfl, rfl, hmn, HD.out⟩
      case round =>
        clear HD
        obtain ⟨m', S', rfl, rfl, hmn', hd'⟩ := hrel
        have hS := rm_size hn hd'
        have HD := Lib.hid hd'
        clear hd'
        by_cases hv : rmV k ≤ m'
        · have ka := fun (w : World) => run_string_add_sum (P := Tryz.prog) w S' (rmS k) (by omega)
          go_wp2_with fail
          go_round
          case rel => exact ⟨m' - rmV k, S' ++ rmS k, by rw [Int.natCast_sub hv], rfl, by omega, rm_more hk13 hv HD.out⟩
          case measure =>
            show ((m' : Int) - rmV k).toNat < (m' : Int).toNat
            omega
        · go_wp2_with fail
          go_round
          case rel => exact ⟨k + 1, m', S', by omega, by go_num, rfl, rfl, hmn', rm_next hk13 (by omega) HD.out⟩
          case measure => simp [intOf]; omega
    · obtain rfl : k = 13 := by omega
      go_wp2_with fail
      rw [rm_end HD.out]
      go_ret
      exact ⟨rfl, hb⟩
end Go.Proofs.YtaamjccffkdlhaaGreatDoor
