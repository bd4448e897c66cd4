/- Walk of the statements' bits: a text that is made of pieces. -/
import Derived.Test.YtfcbpehgkpmniaaDoorDa
import Derived.Deep.CutRange
namespace Go.Proofs.YtfcbpehgkpmniaaDoor
open Go.RowKit Go.Maps Go.WideMaps

/-- The pieces. -/
def bitL : List ByteArray := [⟨#[32]⟩, ⟨#[9]⟩, ⟨#[97]⟩, ⟨#[98, 99]⟩, ⟨#[34]⟩, ⟨#[34, 34]⟩, ⟨#[92]⟩, ⟨#[92, 32]⟩, ⟨#[92, 34]⟩, ⟨#[46]⟩, ⟨#[39]⟩, ⟨#[33]⟩, ⟨#[111]⟩, ⟨#[101]⟩, ⟨#[100]⟩, ⟨#[114]⟩, ⟨#[39, 97, 39, 98, 39]⟩, ⟨#[124, 120, 124, 120, 124]⟩, ⟨#[49]⟩, ⟨#[43]⟩, ⟨#[92, 123]⟩, ⟨#[92, 125]⟩, ⟨#[120, 32, 121]⟩, ⟨#[123]⟩, ⟨#[125]⟩]
theorem bit_at (m : Nat) (hm : m < 25) : ∃ x : ByteArray, bitL[m]? = some x ∧ x.size ≤ 5 := by
  have h : ∀ m : Fin 25, ((bitL[m.val]?).map ByteArray.size).getD 9 ≤ 5 ∧ (bitL[m.val]?).isSome = true := by decide +kernel
  obtain ⟨h1, h2⟩ := h ⟨m, hm⟩
  obtain ⟨x, hx⟩ := Option.isSome_iff_exists.1 h2
  refine ⟨x, hx, ?_⟩
  have hx' : bitL[(⟨m, hm⟩ : Fin 25).val]? = some x := hx
  rw [hx'] at h1
  exact h1
theorem bit_cell (w : World) (m : Nat) (hm : m < 25) : ∃ x : ByteArray, (w.alloc (.cells #[.string ⟨#[32]⟩, .string ⟨#[9]⟩, .string ⟨#[97]⟩, .string ⟨#[98, 99]⟩, .string ⟨#[34]⟩, .string ⟨#[34, 34]⟩, .string ⟨#[92]⟩, .string ⟨#[92, 32]⟩, .string ⟨#[92, 34]⟩, .string ⟨#[46]⟩, .string ⟨#[39]⟩, .string ⟨#[33]⟩, .string ⟨#[111]⟩, .string ⟨#[101]⟩, .string ⟨#[100]⟩, .string ⟨#[114]⟩, .string ⟨#[39, 97, 39, 98, 39]⟩, .string ⟨#[124, 120, 124, 120, 124]⟩, .string ⟨#[49]⟩, .string ⟨#[43]⟩, .string ⟨#[92, 123]⟩, .string ⟨#[92, 125]⟩, .string ⟨#[120, 32, 121]⟩, .string ⟨#[123]⟩, .string ⟨#[125]⟩] 9)).cell? ⟨w.heap.size, m, none⟩ = some (.string x) ∧ x.size ≤ 5 := by
  obtain ⟨x, hx, hz⟩ := bit_at m hm
  refine ⟨x, ?_, hz⟩
  rw [(Blk.new w 9 #[.string ⟨#[32]⟩, .string ⟨#[9]⟩, .string ⟨#[97]⟩, .string ⟨#[98, 99]⟩, .string ⟨#[34]⟩, .string ⟨#[34, 34]⟩, .string ⟨#[92]⟩, .string ⟨#[92, 32]⟩, .string ⟨#[92, 34]⟩, .string ⟨#[46]⟩, .string ⟨#[39]⟩, .string ⟨#[33]⟩, .string ⟨#[111]⟩, .string ⟨#[101]⟩, .string ⟨#[100]⟩, .string ⟨#[114]⟩, .string ⟨#[39, 97, 39, 98, 39]⟩, .string ⟨#[124, 120, 124, 120, 124]⟩, .string ⟨#[49]⟩, .string ⟨#[43]⟩, .string ⟨#[92, 123]⟩, .string ⟨#[92, 125]⟩, .string ⟨#[120, 32, 121]⟩, .string ⟨#[123]⟩, .string ⟨#[125]⟩]).cell]
  have e : (#[.string ⟨#[32]⟩, .string ⟨#[9]⟩, .string ⟨#[97]⟩, .string ⟨#[98, 99]⟩, .string ⟨#[34]⟩, .string ⟨#[34, 34]⟩, .string ⟨#[92]⟩, .string ⟨#[92, 32]⟩, .string ⟨#[92, 34]⟩, .string ⟨#[46]⟩, .string ⟨#[39]⟩, .string ⟨#[33]⟩, .string ⟨#[111]⟩, .string ⟨#[101]⟩, .string ⟨#[100]⟩, .string ⟨#[114]⟩, .string ⟨#[39, 97, 39, 98, 39]⟩, .string ⟨#[124, 120, 124, 120, 124]⟩, .string ⟨#[49]⟩, .string ⟨#[43]⟩, .string ⟨#[92, 123]⟩, .string ⟨#[92, 125]⟩, .string ⟨#[120, 32, 121]⟩, .string ⟨#[123]⟩, .string ⟨#[125]⟩] : Array Value)[m]? = (bitL[m]?).map Value.string := by
    rw [← List.getElem?_map, ← Array.getElem?_toList]
    rfl
  rw [e, hx]
  rfl
set_option maxRecDepth 100000 in
set_option maxHeartbeats 2000000 in
/-- bits. -/
theorem lBits (K : Nat → Prop) (v : Value) (l : List UInt8) (w : World) (h : BysAt K w v l) (hK : ∀ k, K k → k < w.heap.size) (hl : l.length ≤ 60) :
    Calls Tryd.prog 14 #[v] w fun e w' => (∃ s : ByteArray, e = .returned (.string s) ∧ s.size ≤ 300) ∧ Below w.heap.size w w' := by
  obtain ⟨A, cap, rfl, a1, a2, a3⟩ := h
  have HA := Lib.hid a3
  have HK := Lib.hid hK
  clear a3 hK
  unfold maxLen at a2
  go_enter Tryd.func14, Tryd.ntmps14
  go_wp2_with fail
  go_loopw [3, 4] (fun v3 v4 wr => ∃ (k : Nat) (s : ByteArray), k ≤ l.length ∧ v3 = .string s ∧ v4 = .int .i64 k ∧ s.size ≤ 5 * k ∧ Below w.heap.size w wr) (fun _ v4 _ => l.length - (intOf v4).toNat)
  case atStart => exact ⟨0, ⟨#[]⟩, Nat.zero_le _, rfl, rfl, Nat.zero_le _, Below.refl _ _⟩
  case round =>
    obtain ⟨k, s, hk, rfl, rfl, hs, hb⟩ := hrel
    have HB := Lib.hid hb
    clear hb
    by_cases hlt : k < l.length
    · obtain ⟨g, off, rfl, hg, hr⟩ := HA.out (by omega)
      have hx : l[k]? = some l[k] := List.getElem?_eq_getElem hlt
      have c0 : w.cell? ⟨g, off + k, none⟩ = some (.int .u8 (l[k].toNat : Int)) := by
        have := hr k _ hx
        rwa [Nat.mul_one] at this
      have hgl := HK.out g hg
      have c1 := (HB.out.cell (p := ⟨g, off + k, none⟩) hgl).trans c0
      obtain ⟨m, hm, hm25⟩ : ∃ m : Nat, (l[k].toNat : Int).tmod 25 = (m : Int) ∧ m < 25 := ⟨l[k].toNat % 25, by rw [Int.tmod_eq_emod_of_nonneg (by omega)]; omega, by omega⟩
      obtain ⟨x, hcx, hxz⟩ := bit_cell wr m hm25
      have c2 : (wr.alloc (.cells #[.string ⟨#[32]⟩, .string ⟨#[9]⟩, .string ⟨#[97]⟩, .string ⟨#[98, 99]⟩, .string ⟨#[34]⟩, .string ⟨#[34, 34]⟩, .string ⟨#[92]⟩, .string ⟨#[92, 32]⟩, .string ⟨#[92, 34]⟩, .string ⟨#[46]⟩, .string ⟨#[39]⟩, .string ⟨#[33]⟩, .string ⟨#[111]⟩, .string ⟨#[101]⟩, .string ⟨#[100]⟩, .string ⟨#[114]⟩, .string ⟨#[39, 97, 39, 98, 39]⟩, .string ⟨#[124, 120, 124, 120, 124]⟩, .string ⟨#[49]⟩, .string ⟨#[43]⟩, .string ⟨#[92, 123]⟩, .string ⟨#[92, 125]⟩, .string ⟨#[120, 32, 121]⟩, .string ⟨#[123]⟩, .string ⟨#[125]⟩] 9)).cell? ⟨g, off + k, none⟩ = some (.int .u8 (l[k].toNat : Int)) := by
        have := ((Below.refl wr.heap.size wr).alloc (Nat.le_refl _) (.cells #[.string ⟨#[32]⟩, .string ⟨#[9]⟩, .string ⟨#[97]⟩, .string ⟨#[98, 99]⟩, .string ⟨#[34]⟩, .string ⟨#[34, 34]⟩, .string ⟨#[92]⟩, .string ⟨#[92, 32]⟩, .string ⟨#[92, 34]⟩, .string ⟨#[46]⟩, .string ⟨#[39]⟩, .string ⟨#[33]⟩, .string ⟨#[111]⟩, .string ⟨#[101]⟩, .string ⟨#[100]⟩, .string ⟨#[114]⟩, .string ⟨#[39, 97, 39, 98, 39]⟩, .string ⟨#[124, 120, 124, 120, 124]⟩, .string ⟨#[49]⟩, .string ⟨#[43]⟩, .string ⟨#[92, 123]⟩, .string ⟨#[92, 125]⟩, .string ⟨#[120, 32, 121]⟩, .string ⟨#[123]⟩, .string ⟨#[125]⟩] 9)).cell (p := ⟨g, off + k, none⟩) (Nat.lt_of_lt_of_le hgl HB.out.size)
        exact this.trans c1
      have HB1 := Lib.hid (HB.out.alloc HB.out.size (.cells #[.string ⟨#[32]⟩, .string ⟨#[9]⟩, .string ⟨#[97]⟩, .string ⟨#[98, 99]⟩, .string ⟨#[34]⟩, .string ⟨#[34, 34]⟩, .string ⟨#[92]⟩, .string ⟨#[92, 32]⟩, .string ⟨#[92, 34]⟩, .string ⟨#[46]⟩, .string ⟨#[39]⟩, .string ⟨#[33]⟩, .string ⟨#[111]⟩, .string ⟨#[101]⟩, .string ⟨#[100]⟩, .string ⟨#[114]⟩, .string ⟨#[39, 97, 39, 98, 39]⟩, .string ⟨#[124, 120, 124, 120, 124]⟩, .string ⟨#[49]⟩, .string ⟨#[43]⟩, .string ⟨#[92, 123]⟩, .string ⟨#[92, 125]⟩, .string ⟨#[120, 32, 121]⟩, .string ⟨#[123]⟩, .string ⟨#[125]⟩] 9))
      have hw : wrap64 (l[k].toNat : Int) = (l[k].toNat : Int) := IntWalk.wrap64_in _ ⟨by omega, by have := l[k].toNat_lt; omega⟩
      clear c0 c1 hx hr hg
      generalize hln : (l[k].toNat : Int) = n at *
      go_upto_region 6 with fail
      generalize wr.alloc (.cells #[.string ⟨#[32]⟩, .string ⟨#[9]⟩, .string ⟨#[97]⟩, .string ⟨#[98, 99]⟩, .string ⟨#[34]⟩, .string ⟨#[34, 34]⟩, .string ⟨#[92]⟩, .string ⟨#[92, 32]⟩, .string ⟨#[92, 34]⟩, .string ⟨#[46]⟩, .string ⟨#[39]⟩, .string ⟨#[33]⟩, .string ⟨#[111]⟩, .string ⟨#[101]⟩, .string ⟨#[100]⟩, .string ⟨#[114]⟩, .string ⟨#[39, 97, 39, 98, 39]⟩, .string ⟨#[124, 120, 124, 120, 124]⟩, .string ⟨#[49]⟩, .string ⟨#[43]⟩, .string ⟨#[92, 123]⟩, .string ⟨#[92, 125]⟩, .string ⟨#[120, 32, 121]⟩, .string ⟨#[123]⟩, .string ⟨#[125]⟩] 9) = wq at *
      go_wp2_with fail
      go_roundw
      case rel => exact ⟨k + 1, s ++ x, by omega, by go_num, by go_num, by rw [ByteArray.size_append]; omega, HB1.out⟩
      case measure => simp [intOf]; omega
    · go_wp2_with fail
      go_ret
      exact ⟨⟨s, rfl, by omega⟩, HB.out⟩
end Go.Proofs.YtfcbpehgkpmniaaDoor
