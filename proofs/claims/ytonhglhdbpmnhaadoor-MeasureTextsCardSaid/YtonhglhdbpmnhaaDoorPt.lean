/- Plain reckoning: what a number's text is, and what it is read as. -/
import Derived.Test.YtonhglhdbpmnhaaDoorPl
import Derived.Lib.ItoaMem
import Derived.Lib.TrimByte
namespace Go.Proofs.YtonhglhdbpmnhaaDoor

theorem dec_dig (n : Nat) : Lib.decDigits n = digL n := by
  induction n using Nat.strongRecOn with
  | ind n ih =>
    rw [Lib.decDigits, digL]
    by_cases h : n < 10
    · rw [dif_pos h, dif_pos h]
    · rw [dif_neg h, dif_neg h, ih (n / 10) (by omega)]
theorem itoa_dig (n : Nat) : Lib.itoa (n : Int) = digL n := by rw [Lib.itoa_nonneg, dec_dig]
/-- Four digits behind a point. -/
def d4 (r : Nat) : List UInt8 := [(48 + r / 1000).toUInt8, (48 + r / 100 % 10).toUInt8, (48 + r / 10 % 10).toUInt8, (48 + r % 10).toUInt8]
theorem digL_step (n d : Nat) (h : ¬ n < 10) (hd : n % 10 = d) : digL n = digL (n / 10) ++ [(48 + d).toUInt8] := by rw [digL, dif_neg h, hd]
theorem dig5 (r : Nat) (h : r < 10000) : digL (10000 + r) = 49 :: d4 r := by
  rw [digL_step (10000 + r) (r % 10) (by omega) (by omega), digL_step ((10000 + r) / 10) (r / 10 % 10) (by omega) (by omega), digL_step ((10000 + r) / 10 / 10) (r / 100 % 10) (by omega) (by omega),
    digL_step ((10000 + r) / 10 / 10 / 10) (r / 1000) (by omega) (by omega), digL, dif_pos (by omega)]
  have : (10000 + r) / 10 / 10 / 10 / 10 = 1 := by omega
  rw [this]
  rfl
theorem trim_snoc (l : List UInt8) (c : UInt8) : Lib.trimRightB (l ++ [c]) c = Lib.trimRightB l c := by
  unfold Lib.trimRightB
  rw [List.reverse_append]
  simp
theorem trim_stop (l : List UInt8) (b c : UInt8) (h : b ≠ c) : Lib.trimRightB (l ++ [b]) c = l ++ [b] := by
  unfold Lib.trimRightB
  rw [List.reverse_append]
  have : (b == c) = false := by simpa using h
  simp [this]
theorem trim_nil (c : UInt8) : Lib.trimRightB [] c = [] := rfl
theorem dropWhile_none (p : UInt8 → Bool) : ∀ l : List UInt8, l.dropWhile p = [] → ∀ x ∈ l, p x = true := by
  intro l
  induction l with
  | nil => intro _ x hx; cases hx
  | cons a l ih =>
    intro h x hx
    rw [List.dropWhile_cons] at h
    by_cases ha : p a = true
    · rw [if_pos ha] at h
      rcases List.mem_cons.1 hx with rfl | hx
      · exact ha
      · exact ih h x hx
    · rw [if_neg ha] at h; cases h
theorem trim_all {l : List UInt8} {c : UInt8} (h : Lib.trimRightB l c = []) : ∀ x ∈ l, x = c := by
  unfold Lib.trimRightB at h
  rw [List.reverse_eq_nil_iff] at h
  intro x hx
  simpa using dropWhile_none _ _ h x (List.mem_reverse.2 hx)
def fracL (r : Nat) : List UInt8 := Lib.trimRightB (d4 r) 48
theorem fracL_0 : fracL 0 = [] := by decide
theorem byte_48 {d : Nat} (h : d < 10) (e : (48 + d).toUInt8 = 48) : d = 0 := by
  have := congrArg UInt8.toNat e
  rw [dig_byte d h] at this
  simp at this; omega
theorem fracL_pos {r : Nat} (h0 : 0 < r) (h : r < 10000) : fracL r ≠ [] := by
  intro e
  have ha := trim_all e
  have h1 := byte_48 (by omega) (ha ((48 + r / 1000).toUInt8) (by simp [d4]))
  have h2 := byte_48 (by omega) (ha ((48 + r / 100 % 10).toUInt8) (by simp [d4]))
  have h3 := byte_48 (by omega) (ha ((48 + r / 10 % 10).toUInt8) (by simp [d4]))
  have h4 := byte_48 (by omega) (ha ((48 + r % 10).toUInt8) (by simp [d4]))
  omega
theorem fracL_len (r : Nat) : (fracL r).length ≤ 4 := by
  unfold fracL Lib.trimRightB
  rw [List.length_reverse]
  have h1 := (List.dropWhile_sublist (· == (48 : UInt8)) (l := (d4 r).reverse)).length_le
  rw [List.length_reverse] at h1
  exact h1
/-- What a text of n in units of u, with the scale's letter c, is. -/
def fr (n u : Nat) : Nat := n % u * 10000 / u
theorem fr_lt (n u : Nat) (hu : 0 < u) : fr n u < 10000 := by
  have := Nat.mod_lt n hu
  unfold fr
  rw [Nat.div_lt_iff_lt_mul hu]
  rw [Nat.mul_comm 10000]
  exact Nat.mul_lt_mul_of_pos_right this (by omega)
def fracT (r : Nat) : List UInt8 := if fracL r = [] then [] else 46 :: fracL r
def txt (n u : Nat) (c : UInt8) : List UInt8 := digL (n / u) ++ fracT (fr n u) ++ [c]
theorem fracT_10 (k : Nat) : fracT (fr k 10) = if k % 10 = 0 then [] else [46, (48 + k % 10).toUInt8] := by
  have h : fr k 10 = k % 10 * 1000 := by unfold fr; omega
  have h10 : k % 10 < 10 := by omega
  rw [h]
  generalize k % 10 = d at h10
  match d, h10 with
  | 0, _ | 1, _ | 2, _ | 3, _ | 4, _ | 5, _ | 6, _ | 7, _ | 8, _ | 9, _ => decide
theorem fracT_1 (k : Nat) : fracT (fr k 1) = [] := by
  have h : fr k 1 = 0 := by unfold fr; omega
  rw [h]; decide
theorem numF_u {s : ByteArray} {M : Md} {k : Nat} (hk : k < 1000000000) (hfm : M.fm = false) (h : s.data.toList = digL k ++ [117]) : numF s M 0 = .ok k s.size := by
  have hseg := Seg.whole s
  rw [h] at hseg
  obtain ⟨g1, g2⟩ := hseg.app
  have hz : s.size = (digL k).length + 1 := by rw [size_list, h]; simp
  have hl := digL_len k 8 (by simpa using hk)
  have hp := digL_pos k
  have b1 : bt s (0 + (digL k).length) = 117 := g2.one
  have hd : dCount s 0 = (digL k).length := dCount_eq (by omega) (fun j hj => by
    have hc := List.getElem?_eq_getElem hj
    rw [g1 j _ hc]
    exact isDig_iff.2 (digL_all k _ (List.getElem_mem hj))) (.inl (by rw [b1]; rfl))
  have hpt : nPart s 0 = false := by unfold nPart; rw [hd, b1]; rfl
  have hne : nEnd s 0 = 0 + (digL k).length := by unfold nEnd; rw [hpt, hd]; rfl
  have hno : nOne s M 0 = 1 := by unfold nOne; rw [hne, b1]; rfl
  have hto : nTo s M 0 = s.size := by
    unfold nTo; rw [hne, b1]
    have : (unitF 117 M.sz M.vs).isSome = true := rfl
    rw [this, if_pos rfl]; omega
  have hva : nVal s M 0 = k := by
    unfold nVal
    rw [hpt, hd, hno, digL_val k g1]; simp
  unfold numF
  rw [if_neg (by rw [hd]; omega), hva, hto]
  have hw : within (k : Int) = true := within_iff.2 (by omega)
  simp [bdd, hfm, hw]
theorem numF_p {s : ByteArray} {M : Md} {k : Nat} (hk : k < 1000000000) (hfm : M.fm = false) (h : s.data.toList = txt k 10 112) : numF s M 0 = .ok k s.size := by
  unfold txt at h
  rw [fracT_10] at h
  have hl := digL_len (k / 10) 8 (by omega)
  have hp := digL_pos (k / 10)
  have hseg := Seg.whole s
  rw [h, List.append_assoc] at hseg
  obtain ⟨g1, g2⟩ := hseg.app
  rw [Nat.zero_add] at g2
  have hw : within (k : Int) = true := within_iff.2 (by omega)
  by_cases h0 : k % 10 = 0
  · rw [if_pos h0, List.nil_append] at g2
    rw [if_pos h0] at h
    have hz : s.size = (digL (k / 10)).length + 1 := by rw [size_list, h]; simp
    have b1 : bt s ((digL (k / 10)).length) = 112 := g2.one
    have hd : dCount s 0 = (digL (k / 10)).length := dCount_eq (by omega) (fun j hj => by
      have hc := List.getElem?_eq_getElem hj
      rw [g1 j _ hc]
      exact isDig_iff.2 (digL_all _ _ (List.getElem_mem hj))) (.inl (by rw [Nat.zero_add, b1]; rfl))
    have hpt : nPart s 0 = false := by unfold nPart; rw [hd, Nat.zero_add, b1]; rfl
    have hne : nEnd s 0 = (digL (k / 10)).length := by unfold nEnd; rw [hpt, hd, Nat.zero_add]; rfl
    have hno : nOne s M 0 = 10 := by unfold nOne; rw [hne, b1]; rfl
    have hto : nTo s M 0 = s.size := by
      unfold nTo; rw [hne, b1]
      have : (unitF 112 M.sz M.vs).isSome = true := rfl
      rw [this, if_pos rfl]; omega
    have hva : nVal s M 0 = k := by
      unfold nVal
      rw [hpt, hd, hno, digL_val _ g1]; simp; omega
    unfold numF
    rw [if_neg (by rw [hd]; omega), hva, hto]
    simp [bdd, hfm, hw]
  · rw [if_neg h0] at g2 h
    obtain ⟨g2, g3⟩ := g2.app
    have hz : s.size = (digL (k / 10)).length + 3 := by rw [size_list, h]; simp
    have b1 : bt s ((digL (k / 10)).length) = 46 := g2.one
    have b2 : bt s ((digL (k / 10)).length + 1) = 48 + k % 10 := by
      have := g2 1 _ rfl
      rw [dig_byte _ (by omega)] at this; exact this
    have b3 : bt s ((digL (k / 10)).length + 1 + 1) = 112 := g3.one
    have hd : dCount s 0 = (digL (k / 10)).length := dCount_eq (by omega) (fun j hj => by
      have hc := List.getElem?_eq_getElem hj
      rw [g1 j _ hc]
      exact isDig_iff.2 (digL_all _ _ (List.getElem_mem hj))) (.inl (by rw [Nat.zero_add, b1]; rfl))
    have hd2 : dCount s ((digL (k / 10)).length + 1) = 1 := dCount_eq (by omega) (fun j hj => by
      obtain rfl : j = 0 := by omega
      rw [Nat.add_zero, b2]; exact isDig_iff.2 (by omega)) (.inl (by rw [b3]; rfl))
    have hpt : nPart s 0 = true := by
      unfold nPart
      rw [hd, Nat.zero_add, b1, b2]
      have : isDig (48 + k % 10) = true := isDig_iff.2 (by omega)
      rw [this]; rfl
    have hne : nEnd s 0 = (digL (k / 10)).length + 1 + 1 := by unfold nEnd; rw [hpt, hd, Nat.zero_add, hd2]; rfl
    have hno : nOne s M 0 = 10 := by unfold nOne; rw [hne, b3]; rfl
    have hto : nTo s M 0 = s.size := by
      unfold nTo; rw [hne, b3]
      have : (unitF 112 M.sz M.vs).isSome = true := rfl
      rw [this, if_pos rfl]; omega
    have hv2 : dVal s ((digL (k / 10)).length + 1) 1 = k % 10 := by
      simp only [dVal, Nat.add_zero, b2]; omega
    have hva : nVal s M 0 = k := by
      unfold nVal
      rw [hpt, hd, hno, digL_val _ g1, Nat.zero_add, hd2, hv2]
      simp [p10]; omega
    unfold numF
    rw [if_neg (by rw [hd]; omega), hva, hto]
    simp [bdd, hfm, hw]
theorem eval_num {s : ByteArray} {M : Md} {k : Nat} (h0 : isDig (bt s 0) = true) (h : numF s M 0 = .ok k s.size) : whole s (evT s M) = ((k : Int), 0) := by
  have e1 : ev s M 2 (.sum 0 0) = some (.ok (k : Int) s.size) := by
    rw [ev_sum, opd_dig h0, h]
    exact loop_end (.inl rfl) (opAt0 (.inl (bt_end s (Nat.le_refl _))))
  rw [evT_of e1]
  simp [whole]
theorem eval_text {s : ByteArray} {k u : Nat} {c : UInt8} {sz vs : Int} (hk : k < 1000000000) (hz : 0 ≤ sz ∧ sz ≤ 1000000) (hv : 0 ≤ vs ∧ vs ≤ 1000000) (hu : (u = 1 ∧ c = 117) ∨ (u = 10 ∧ c = 112)) (h : s.data.toList = txt k u c) :
    evalA s 118 sz vs 0 = ((k : Int), 0) := by
  have ha : argF 118 sz vs 0 = some vs := by
    unfold argF
    rw [if_pos (okB_iff.2 ⟨hz.1, hz.2, hv.1, hv.2, by omega, by omega⟩)]
    rfl
  unfold evalA
  rw [ha]
  simp only
  have hd : isDig (bt s 0) = true := by
    have hseg := Seg.whole s
    rw [h, txt, List.append_assoc] at hseg
    obtain ⟨b, l, hl, h1, h2⟩ := digL_head (k / u)
    rw [hl] at hseg
    rw [hseg.app.1.one]
    exact isDig_iff.2 ⟨h1, h2⟩
  refine eval_num hd ?_
  rcases hu with ⟨rfl, rfl⟩ | ⟨rfl, rfl⟩
  · refine numF_u hk rfl ?_
    rw [h, txt, fracT_1, List.append_nil, Nat.div_one]
  · exact numF_p hk rfl h
theorem txt_len (n u : Nat) (c : UInt8) (hn : n ≤ 9223372036854775807) : (txt n u c).length ≤ 30 := by
  have h1 := digL_len (n / u) 18 (by have := Nat.div_le_self n u; omega)
  have h2 := fracL_len (fr n u)
  unfold txt fracT
  split <;> simp <;> omega
end Go.Proofs.YtonhglhdbpmnhaaDoor
