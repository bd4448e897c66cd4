/- Walk of the code's stack: Lines. -/
import Derived.Test.YtpgkhhchpojlaaaGreatDoorShelf
import Derived.Test.YtpgkhhchpojlaaaGreatDoorCa
import Derived.Lib.IndexBytes
namespace Go.Proofs.YtpgkhhchpojlaaaGreatDoor
open Go.RowKit Go.Maps Go.WideMaps

/-- Bytes cut at all line feeds. -/
def cutA : List UInt8 → List (List UInt8)
  | [] => [[]]
  | c :: t => if c = 10 then [] :: cutA t else match cutA t with
    | [] => [[c]]
    | a :: r => (c :: a) :: r
/-- Without an empty last part. -/
def trimE : List (List UInt8) → List (List UInt8)
  | [] => []
  | [a] => if a = [] then [] else [a]
  | a :: b :: r => a :: trimE (b :: r)
theorem cutA_ne (l : List UInt8) : cutA l ≠ [] := by
  cases l with
  | nil => simp [cutA]
  | cons c t =>
    unfold cutA
    split
    · simp
    · split <;> simp
theorem cutA_small : ∀ (l : List UInt8), ∀ x ∈ cutA l, x.length ≤ l.length
  | [], x, h => by rw [List.mem_singleton.1 h]; exact Nat.le_refl _
  | c :: t, x, h => by
    have ih := cutA_small t
    unfold cutA at h
    split at h
    · rcases List.mem_cons.1 h with rfl | h
      · exact Nat.zero_le _
      · exact Nat.le_succ_of_le (ih x h)
    · split at h
      · rw [List.mem_singleton.1 h]
        simp
      · rename_i a r e
        rw [e] at ih
        rcases List.mem_cons.1 h with rfl | h
        · have := ih a (List.mem_cons_self ..)
          simpa using this
        · exact Nat.le_succ_of_le (ih x (List.mem_cons_of_mem _ h))
theorem trimE_cons (a : List UInt8) {l : List (List UInt8)} (h : l ≠ []) : trimE (a :: l) = a :: trimE l := by
  cases l with
  | nil => exact absurd rfl h
  | cons b r => rfl
theorem cutLf_trim : ∀ l : List UInt8, cutLf l = trimE (cutA l)
  | [] => rfl
  | c :: t => by
    have ih := cutLf_trim t
    unfold cutLf cutA
    by_cases h : c = 10
    · rw [if_pos h, if_pos h, ih, trimE_cons _ (cutA_ne t)]
    · rw [if_neg h, if_neg h, ih]
      cases hc : cutA t with
      | nil => exact absurd hc (cutA_ne t)
      | cons a r =>
        cases r with
        | nil =>
          unfold trimE
          by_cases ha : a = []
          · subst ha; rfl
          · rw [if_neg ha, if_neg (by simp)]
        | cons b r => rfl
theorem trimE_last : ∀ (l : List (List UInt8)) (a : List UInt8), l[l.length - 1]? = some a → trimE l = if a = [] then l.take (l.length - 1) else l
  | [], a, h => by cases h
  | [b], a, h => by
    injection h with h
    subst h
    rfl
  | b :: c :: r, a, h => by
    have ih := trimE_last (c :: r) a (by simpa using h)
    show b :: trimE (c :: r) = _
    rw [ih]
    split <;> simp
theorem index_cons (c : UInt8) (t : List UInt8) (h : c ≠ 10) : Lib.index (c :: t) [10] = if Lib.index t [10] == -1 then -1 else Lib.index t [10] + 1 := by
  have hp : ([10] : List UInt8).isPrefixOf (c :: t) = false := by simp [List.isPrefixOf, Ne.symm h]
  rw [Lib.index, hp]; simp
theorem splitK_cut : ∀ (s : List UInt8), Lib.splitK [10] 0 (Lib.count s [10]) s = cutA s
  | [] => rfl
  | c :: t => by
    have ih := splitK_cut t
    unfold cutA
    by_cases h : c = 10
    · subst h
      rw [if_pos rfl, Lib.count_cons_eq, Nat.add_comm]
      have hix : Lib.index (10 :: t) [10] = 0 := by rw [Lib.index]; simp [List.isPrefixOf]
      unfold Lib.splitK
      rw [hix, if_neg (by decide)]
      show [] :: Lib.splitK [10] 0 (Lib.count t [10]) t = _
      rw [ih]
    · rw [if_neg h, Lib.count_cons_ne c 10 t h, ← ih]
      cases hk : Lib.count t [10] with
      | zero => rfl
      | succ k =>
        unfold Lib.splitK
        rw [index_cons c t h]
        by_cases hm : Lib.index t [10] = -1
        · rw [hm]; rfl
        · have hge := Lib.index_ge t [10]
          obtain ⟨j, hj⟩ : ∃ j : Nat, Lib.index t [10] = j := ⟨(Lib.index t [10]).toNat, by omega⟩
          have e1 : (Lib.index t [10] == -1) = false := beq_eq_false_iff_ne.2 hm
          rw [e1]
          simp only [Bool.false_eq_true, if_false]
          have e2 : (Lib.index t [10] + 1 == -1) = false := beq_eq_false_iff_ne.2 (by omega)
          rw [e2]
          simp only [Bool.false_eq_true, if_false]
          rw [hj, show ((j : Int) + 1).toNat = j + 1 by omega, show ((j : Int)).toNat = j by omega]
          rfl
abbrev sLf : ByteArray := ⟨#[10]⟩
/-- The parts of a text between its line feeds. -/
def prts (s : ByteArray) : List ByteArray := Lib.splitB sLf 0 (Lib.countB s sLf) s
theorem prts_data (s : ByteArray) : (prts s).map (·.data.toList) = cutA s.data.toList := by
  unfold prts
  rw [Lib.splitB_data]
  exact splitK_cut _
theorem prts_len (s : ByteArray) : (prts s).length = Lib.countB s sLf + 1 := Lib.splitB_all sLf (by decide) 0 _ s rfl
theorem lnsT_prts (s : ByteArray) (a : ByteArray) (h : (prts s)[(prts s).length - 1]? = some a) : lnsT s = if a = ⟨#[]⟩ then (prts s).take ((prts s).length - 1) else prts s := by
  have h1 : ((prts s).map (·.data.toList))[((prts s).map (·.data.toList)).length - 1]? = some a.data.toList := by rw [List.length_map, List.getElem?_map, h]; rfl
  have h2 := trimE_last _ _ h1
  rw [prts_data, ← cutLf_trim, ← prts_data] at h2
  have hid : ∀ l : List ByteArray, (l.map (·.data.toList)).map (fun l : List UInt8 => (⟨l.toArray⟩ : ByteArray)) = l := fun l => by
    rw [List.map_map]
    conv => rhs; rw [← List.map_id l]
    apply List.map_congr_left
    intro x _
    rfl
  unfold lnsT
  rw [h2]
  by_cases ha : a = ⟨#[]⟩
  · subst ha
    rw [if_pos rfl, if_pos rfl, List.length_map, ← List.map_take, hid]
  · rw [if_neg ha, if_neg (fun e => ha (ba_eq e)), hid]
/-- strings.Split, at a line feed. -/
theorem cSplit (s : ByteArray) (hs : s.size ≤ 1000000) (w : World) :
    Calls Tryz.prog 77 #[.string s, .string ⟨#[10]⟩] w fun e w' => e = .returned (.slice (some ⟨w.heap.size, 0, none⟩) (prts s).length (prts s).length) ∧ w' = w.alloc (.cells ((prts s).map Value.string).toArray 9) := by
  have h1 : 1 ≤ sLf.size := by decide
  have hle := Lib.countB_le sLf h1 s.size s (Nat.le_refl _)
  have hlen := Lib.splitB_all sLf h1 0 _ s rfl
  have c := Any.strings_genSplit_core (N := Lib.countB s sLf + 1) Tryz.lays221 string_info s sLf 0 (-1) w (by omega) h1 (Nat.zero_le _)
    (fun x c _ => (Tryz.strings_Index_one x 10 _).mono fun e w' ⟨he, hw⟩ => ⟨by rw [he]; show _ = Ending.returned (Value.int .i64 (Lib.index x.data.toList [10])); rw [Lib.index_one], hw⟩)
    ((Tryz.strings_Count_one s 10 w).mono fun e w' ⟨he, hw⟩ => ⟨by rw [he]; show _ = Ending.returned (Value.int .i64 ((Lib.count s.data.toList [10] : Nat) : Int)); rw [Lib.count_one]; rfl, hw⟩) (by decide) (by decide) (by rw [if_pos (by decide)]; omega)
  rw [Nat.add_sub_cancel, hlen] at c
  have e2 : Lib.cellsOf (Lib.splitB sLf 0 (Lib.countB s sLf) s) (Lib.countB s sLf + 1) = ((Lib.splitB sLf 0 (Lib.countB s sLf) s).map Value.string).toArray := by rw [← hlen]; exact Lib.cellsOf_full _
  rw [e2] at c
  rw [prts_len]
  have C := Lib.hid c
  clear c
  go_enter Tryz.func77, Tryz.ntmps77
  go_wp2_with (go_at_call 84; refine C.out.mono ?_; rintro e w' ⟨rfl, hw⟩; rw [hw])
  go_ret
  exact ⟨rfl, rfl⟩
theorem prts_small (s : ByteArray) : ∀ x ∈ prts s, x.size ≤ s.size := by
  intro x hx
  have h : x.data.toList ∈ (prts s).map (·.data.toList) := List.mem_map.2 ⟨x, hx, rfl⟩
  rw [prts_data] at h
  exact cutA_small _ _ h
theorem SsAt.first {K : Nat → Prop} {w : World} {g n : Nat} {l : List ByteArray} (h : SsAt K w (.slice (some ⟨g, 0, none⟩) l.length n) l) {m : Nat} (hm : m ≤ l.length) : SsAt K w (.slice (some ⟨g, 0, none⟩) m n) (l.take m) := by
  obtain ⟨A, c, e, h1, h2, h3⟩ := h
  injection e with e1 _ e3
  subst e1 e3
  have hl : (l.take m).length = m := by rw [List.length_take]; omega
  refine ⟨_, _, by rw [hl], by rw [hl]; omega, h2, fun h0 => ?_⟩
  rw [hl] at h0
  obtain ⟨g', off, e, hk, hr⟩ := h3 (by omega)
  injection e with e
  injection e with e1 e2
  subst e1 e2
  exact ⟨g, 0, rfl, hk, fun i x hx => hr i x (by rw [List.getElem?_take] at hx; split at hx; exact hx; cases hx)⟩
set_option maxRecDepth 100000 in
/-- Lines. -/
theorem cLines (s : ByteArray) (w : World) (hs : s.size ≤ 1000000) : Calls Tryz.prog 67 #[.string s] w fun e w' => ∃ A n c, e = .returned (.slice A n c) ∧ SsAt (fun k => w.heap.size ≤ k ∧ k < w'.heap.size) w' (.slice A n c) (lnsT s) ∧ Below w.heap.size w w' := by
  have HSp := Lib.hid (cSplit s hs w)
  have hp0 : 0 < (prts s).length := by rw [prts_len]; omega
  have hpl : (prts s).length ≤ 1000001 := by rw [prts_len]; have := Lib.countB_le sLf (by decide) s.size s (Nat.le_refl _); omega
  have hlast := List.getElem?_eq_getElem (show (prts s).length - 1 < (prts s).length by omega)
  generalize (prts s)[(prts s).length - 1] = y at hlast
  have HL := Lib.hid (lnsT_prts s y hlast)
  have hB : Below w.heap.size w (w.alloc (.cells ((prts s).map Value.string).toArray 9)) := (Below.refl _ _).alloc (Nat.le_refl _) _
  have hblk := Blk.new w 9 ((prts s).map Value.string).toArray
  have hSs : SsAt (fun k => w.heap.size ≤ k ∧ k < (w.alloc (.cells ((prts s).map Value.string).toArray 9)).heap.size) (w.alloc (.cells ((prts s).map Value.string).toArray 9)) (.slice (some ⟨w.heap.size, 0, none⟩) (prts s).length (prts s).length) (prts s) :=
    ⟨_, _, rfl, Nat.le_refl _, by unfold maxLen; omega, fun _ => ⟨_, 0, rfl, ⟨Nat.le_refl _, by simp⟩, fun i x hx => ⟨by rw [Nat.zero_add, Nat.mul_one, hblk.cell]; simp [hx], by have := prts_small s x (List.mem_of_getElem? hx); omega⟩⟩⟩
  have hc : (w.alloc (.cells ((prts s).map Value.string).toArray 9)).cell? ⟨w.heap.size, (prts s).length - 1, none⟩ = some (.string y) := by
    rw [hblk.cell]
    simp [hlast]
  have HS := Lib.hid hSs
  have HB := Lib.hid hB
  generalize hW : w.alloc (.cells ((prts s).map Value.string).toArray 9) = W at *
  clear hblk hSs hB hlast
  have hm1 : IntKind.i64.wrap (((prts s).length : Nat) - 1 : Int) = (((prts s).length - 1 : Nat) : Int) := by rw [IntWalk.i64_in _ (by omega)]; omega
  have hm2 : (((prts s).length - 1 : Nat) : Int) < ((prts s).length : Nat) := by omega
  have hm3 : (prts s).length - 1 ≤ (prts s).length := by omega
  generalize (prts s).length - 1 = m at *
  by_cases hy : y = ⟨#[]⟩
  · subst hy
    rw [if_pos rfl] at HL
    go_enter Tryz.func67, Tryz.ntmps67
    go_wp2_with (go_at_call 77; refine HSp.out.mono ?_; rintro e w' ⟨rfl, hw⟩; rw [hw])
    go_ret
    exact ⟨_, _, _, rfl, by rw [HL.out]; exact HS.out.first hm3, HB.out⟩
  · rw [if_neg hy] at HL
    have hy0 : y.size ≠ 0 := fun e => hy (by
      apply ByteArray.ext
      exact Array.eq_empty_of_size_eq_zero e)
    obtain ⟨hl, hl2⟩ := toList_ne hy0
    go_enter Tryz.func67, Tryz.ntmps67
    go_wp2_with (go_at_call 77; refine HSp.out.mono ?_; rintro e w' ⟨rfl, hw⟩; rw [hw])
    go_ret
    exact ⟨_, _, _, rfl, by rw [HL.out]; exact HS.out, HB.out⟩
end Go.Proofs.YtpgkhhchpojlaaaGreatDoor
