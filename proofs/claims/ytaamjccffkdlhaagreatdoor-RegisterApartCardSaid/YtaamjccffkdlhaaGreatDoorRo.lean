/- Walks: small letters as great ones; what a digit is: the document's. -/
import Derived.Test.YtaamjccffkdlhaaGreatDoorRh
import Derived.Test.YtaamjccffkdlhaaGreatDoorPc
import Derived.Laws.IdiomStrings
namespace Go.Proofs.YtaamjccffkdlhaaGreatDoor
open Go.RowKit

/-- Block g's first cells are these bytes, none frozen. -/
def RowU8 (w : World) (g : Nat) (l : List UInt8) : Prop := ∀ (i : Nat) (c : UInt8), l[i]? = some c → w.cell? ⟨g, i, none⟩ = some (.int .u8 (c.toNat : Int)) ∧ w.frozen? ⟨g, i, none⟩ = false
theorem RowU8.put {w : World} {g : Nat} {l : List UInt8} (h : RowU8 w g l) {i : Nat} (hi : i < l.length) (c : UInt8) : RowU8 (w.setCell ⟨g, i, none⟩ (.int .u8 (c.toNat : Int))) g (l.set i c) := by
  intro j d hj
  refine ⟨?_, ?_⟩
  · by_cases e : j = i
    · subst e
      rw [List.getElem?_set_self hi] at hj
      injection hj with hj
      subst hj
      obtain ⟨hc, _⟩ := h j _ (List.getElem?_eq_getElem hi)
      exact World.cell?_setCell_same _ _ _ hc
    · rw [List.getElem?_set_ne (fun e' => e e'.symm)] at hj
      rw [World.cell?_setCell_other _ _ _ _ (by intro e'; injection e' with _ e'; exact e e'.symm)]
      exact (h j d hj).1
  · rw [World.frozen?_setCell]
    have hlt : j < l.length := by
      have := (List.getElem?_eq_some_iff.1 hj).1
      simpa using this
    exact (h j _ (List.getElem?_eq_getElem hlt)).2
theorem RowU8.str {w : World} {g : Nat} {l : List UInt8} (h : RowU8 w g l) (cap : Nat) : (convert 85 9 (.slice (some ⟨g, 0, none⟩) l.length cap)).run Tryz.prog w = .ok (.string ⟨l.toArray⟩) w := by
  have := run_convert_bytes_arg (P := Tryz.prog) w 85 5 Tryz.underlying85 Tryz.underlying5 g 0 l.length cap (l.map fun c => (c.toNat : Int)) (by simp) (fun i hi => by
    rw [Nat.zero_add, (h i _ (List.getElem?_eq_getElem hi)).1]
    simp [List.getD, hi]) 9 Tryz.underlying9
  have e : strOfNums (l.map fun c => (c.toNat : Int)) = ⟨l.toArray⟩ := ba_eq (by
    rw [strOfNums_data, List.map_map]
    refine (List.map_congr_left fun c _ => ?_).trans (List.map_id _)
    show UInt8.ofNat ((c.toNat : Int)).toNat = c
    rw [Int.toNat_natCast, UInt8.ofNat_toNat])
  rw [e] at this
  exact this
theorem bytesRow_u8 (w : World) (s : ByteArray) (cap : Nat) : RowU8 (w.alloc (.cells (bytesRow s cap) 5 ((bytesRow s cap).size, (bytesRow s cap).size + 1))) w.heap.size s.data.toList := by
  intro i c hc
  have hi : i < s.data.size := by
    have := (List.getElem?_eq_some_iff.1 hc).1
    simpa using this
  have hb : (w.alloc (.cells (bytesRow s cap) 5 ((bytesRow s cap).size, (bytesRow s cap).size + 1))).heap[w.heap.size]? = some (.cells (bytesRow s cap) 5 ((bytesRow s cap).size, (bytesRow s cap).size + 1)) := heap_alloc_new w _
  refine ⟨?_, ?_⟩
  · rw [cell_of_row _ _ i _ _ _ hb, bytesRow_at s cap i hi]
    have : s.data[i] = c := by
      have h2 := (List.getElem?_eq_some_iff.1 hc).2
      simpa using h2
    rw [this]
  · have hlt : i < (bytesRow s cap).size := by
      have := bytesRow_at s cap i hi
      exact (Array.getElem?_eq_some_iff.1 this).1
    simp only [World.frozen?, hb]
    simp
    omega
/-- The first k bytes in great letters. -/
def mixL (l : List UInt8) (k : Nat) : List UInt8 := (l.take k).map Lib.upperB ++ l.drop k
theorem mixL_len (l : List UInt8) (k : Nat) : (mixL l k).length = l.length := by simp [mixL]; omega
theorem mixL_at {l : List UInt8} {k : Nat} (h : k < l.length) : (mixL l k)[k]? = some l[k] := by
  unfold mixL
  rw [List.getElem?_append_right (by simp; omega)]
  simp [Nat.min_eq_left (Nat.le_of_lt h), h]
theorem mixL_step {l : List UInt8} {k : Nat} (h : k < l.length) : mixL l (k + 1) = (mixL l k).set k (Lib.upperB l[k]) := by
  unfold mixL
  rw [List.take_succ_eq_append_getElem h, List.map_append, List.append_assoc, List.set_append_right _ _ (by simp; omega)]
  congr 1
  have : k - ((l.take k).map Lib.upperB).length = 0 := by simp; omega
  rw [this, List.drop_eq_getElem_cons h]
  rfl
theorem mixL_same {l : List UInt8} {k : Nat} (h : k < l.length) (hu : Lib.upperB l[k] = l[k]) : mixL l (k + 1) = mixL l k := by
  rw [mixL_step h, hu]
  apply List.ext_getElem?
  intro j
  by_cases e : j = k
  · subst e
    rw [List.getElem?_set_self (by rw [mixL_len]; exact h), mixL_at h]
  · rw [List.getElem?_set_ne (fun e' => e e'.symm)]
theorem mixL_all (l : List UInt8) : mixL l l.length = upL l := by simp [mixL, upL]
theorem upperB_yes {c : UInt8} (h1 : 97 ≤ c.toNat) (h2 : c.toNat ≤ 122) : ((Lib.upperB c).toNat : Int) = (c.toNat : Int) - 32 := by
  have : Lib.upperB c = c - 32 := by
    unfold Lib.upperB Lib.isLowerB
    rw [if_pos]
    simp only [Bool.and_eq_true, decide_eq_true_eq, UInt8.le_iff_toNat_le]
    exact ⟨h1, h2⟩
  rw [this, UInt8.toNat_sub_of_le _ _ (by rw [UInt8.le_iff_toNat_le]; exact Nat.le_trans (by decide) h1)]
  have : (32 : UInt8).toNat = 32 := rfl
  omega
theorem upperB_no {c : UInt8} (h : c.toNat < 97 ∨ 122 < c.toNat) : Lib.upperB c = c := by
  unfold Lib.upperB Lib.isLowerB
  rw [if_neg]
  simp only [Bool.and_eq_true, decide_eq_true_eq, UInt8.le_iff_toNat_le]
  have e1 : (97 : UInt8).toNat = 97 := rfl
  have e2 : (122 : UInt8).toNat = 122 := rfl
  omega
def RGr (s : ByteArray) (g : Nat) (w : World) (v4 : Value) (wr : World) : Prop :=
  ∃ k : Nat, k ≤ s.size ∧ v4 = .int .i64 k ∧ RowU8 wr g (mixL s.data.toList k) ∧ Below w.heap.size w wr
set_option maxRecDepth 100000 in
/-- The document's great. -/
theorem nGreat (s : ByteArray) (hs : s.size ≤ 1000) (w : World) :
    Calls Tryz.prog 86 #[.string s] w fun e w' => e = .returned (.string ⟨(upL s.data.toList).toArray⟩) ∧ Below w.heap.size w w' := by
  have hcv := run_bytes_of_string (P := Tryz.prog) w 9 85 5 s Tryz.underlying9 Tryz.underlying85 Tryz.underlying5
  go_enter Tryz.func86, Tryz.ntmps86
  go_wp2_with fail
  clear hcv
  generalize grownCap w s.size 0 5 = cap
  have hrow := bytesRow_u8 w s cap
  have hb0 : Below w.heap.size w (w.alloc (.cells (bytesRow s cap) 5 ((bytesRow s cap).size, (bytesRow s cap).size + 1))) := (Below.refl _ _).alloc (Nat.le_refl _) _
  have hr0 : RowU8 ((w.alloc (.cells (bytesRow s cap) 5 ((bytesRow s cap).size, (bytesRow s cap).size + 1))).drew) w.heap.size s.data.toList := hrow
  have hb1 := hb0.drew
  have hlen : s.data.toList.length = s.size := rfl
  clear hrow hb0
  generalize (w.alloc (.cells (bytesRow s cap) 5 ((bytesRow s cap).size, (bytesRow s cap).size + 1))).drew = wo at hr0 hb1 ⊢
  have HR0 := Lib.hid hr0
  clear hr0
  obtain ⟨g, hg⟩ : ∃ g, g = w.heap.size := ⟨_, rfl⟩
  rw [← hg] at HR0 ⊢
  have HG := Lib.hid hg
  clear hg
  go_loopw [4] (fun v4 wr => RGr s g w v4 wr) (fun v4 _ => s.size - (intOf v4).toNat)
  case atStart => exact ⟨0, Nat.zero_le _, rfl, by simpa [mixL] using HR0.out, hb1⟩
  case round =>
    clear hb1 HR0
    obtain ⟨k, hk, rfl, hrow, hb⟩ := hrel
    by_cases hlt : k < s.size
    · have hk' : k < s.data.toList.length := by omega
      obtain ⟨hc, hf⟩ := hrow k _ (mixL_at hk')
      obtain ⟨c, hcc⟩ : ∃ c, c = s.data.toList[k] := ⟨_, rfl⟩
      rw [← hcc] at hc
      have HC := Lib.hid hcc
      have HR := Lib.hid hrow
      clear hcc hrow
      have hc256 := c.toNat_lt
      by_cases h1 : 97 ≤ c.toNat
      · by_cases h2 : c.toNat ≤ 122
        · go_wp2_with fail
          go_roundw
          case rel =>
            have hk' : k < s.data.toList.length := by omega
            refine ⟨k + 1, by omega, by go_num, ?_, hb.setCell (by rw [HG.out]; exact Nat.le_refl _) _⟩
            rw [mixL_step hk', ← HC.out, ← upperB_yes h1 h2]
            exact HR.out.put (by rw [mixL_len]; exact hk') _
          case measure => simp [intOf]; omega
        · go_wp2_with fail
          go_roundw
          case rel =>
            have hk' : k < s.data.toList.length := by omega
            refine ⟨k + 1, by omega, by go_num, ?_, hb⟩
            rw [mixL_same hk' (by rw [← HC.out]; exact upperB_no (.inr (by omega)))]
            exact HR.out
          case measure => simp [intOf]; omega
      · go_wp2_with fail
        go_roundw
        case rel =>
          have hk' : k < s.data.toList.length := by omega
          refine ⟨k + 1, by omega, by go_num, ?_, hb⟩
          rw [mixL_same hk' (by rw [← HC.out]; exact upperB_no (.inl (by omega)))]
          exact HR.out
        case measure => simp [intOf]; omega
    · obtain rfl : k = s.size := by omega
      rw [← hlen, mixL_all] at hrow
      have hul : (upL s.data.toList).length = s.size := by simp [upL]
      have kc := hrow.str
      rw [hul] at kc
      have HK := Lib.hid (kc cap)
      clear kc hrow hul
      have kc := HK.out
      go_wp2_with fail
      go_ret
      exact ⟨rfl, hb⟩
end Go.Proofs.YtaamjccffkdlhaaGreatDoor
