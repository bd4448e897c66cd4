/- Plain reckoning: what chains of two operators, and chains of + and -, come to. -/
import Derived.Test.YtonhglhdbpmnhaaDoorMm
import Derived.Test.YtonhglhdbpmnhaaDoorNd
namespace Go.Proofs.YtonhglhdbpmnhaaDoor

/-- The bytes l stand in s from i on. -/
def Seg (s : ByteArray) (i : Nat) (l : List UInt8) : Prop := ∀ (j : Nat) (c : UInt8), l[j]? = some c → bt s (i + j) = c.toNat
theorem Seg.app {s : ByteArray} {i : Nat} {l m : List UInt8} (h : Seg s i (l ++ m)) : Seg s i l ∧ Seg s (i + l.length) m := by
  refine ⟨fun j c hc => h j c ?_, fun j c hc => ?_⟩
  · rw [List.getElem?_append_left (by have := List.getElem?_eq_some_iff.1 hc; exact this.1)]; exact hc
  · have := h (l.length + j) c (by rw [List.getElem?_append_right (by omega)]; simpa using hc)
    rw [← this]; congr 1; omega
theorem Seg.whole (s : ByteArray) : Seg s 0 s.data.toList := by
  intro j c hc
  rw [Nat.zero_add, bt_list, hc]
theorem Seg.one {s : ByteArray} {i : Nat} {c : UInt8} {l : List UInt8} (h : Seg s i (c :: l)) : bt s i = c.toNat := h 0 c rfl
theorem bt_end (s : ByteArray) {i : Nat} (h : s.size ≤ i) : bt s i = 0 := by simp [bt]; omega

/-- The digits of a number. -/
def digL (n : Nat) : List UInt8 := if h : n < 10 then [(48 + n).toUInt8] else digL (n / 10) ++ [(48 + n % 10).toUInt8]
termination_by n
decreasing_by omega
theorem dig_byte (d : Nat) (h : d < 10) : ((48 + d).toUInt8).toNat = 48 + d := by
  simp [Nat.toUInt8, UInt8.toNat_ofNat]; omega
theorem digL_all (n : Nat) : ∀ c ∈ digL n, 48 ≤ c.toNat ∧ c.toNat ≤ 57 := by
  induction n using Nat.strongRecOn with
  | ind n ih =>
    intro c hc
    rw [digL] at hc
    split at hc
    · rename_i h
      rw [List.mem_singleton] at hc
      subst hc
      rw [dig_byte n h]; omega
    · rename_i h
      rw [List.mem_append] at hc
      rcases hc with hc | hc
      · exact ih (n / 10) (by omega) c hc
      · rw [List.mem_singleton] at hc
        subst hc
        rw [dig_byte (n % 10) (by omega)]; omega
theorem digL_pos (n : Nat) : 0 < (digL n).length := by
  rw [digL]; split <;> simp
theorem digL_len (n k : Nat) (h : n < 10 ^ (k + 1)) : (digL n).length ≤ k + 1 := by
  induction k generalizing n with
  | zero => rw [digL, dif_pos (by simpa using h)]; simp
  | succ k ih =>
    rw [digL]
    split
    · simp
    · have := ih (n / 10) (by rw [Nat.pow_succ] at h; omega)
      simp; omega
theorem dVal_app {s : ByteArray} {i k : Nat} : dVal s i (k + 1) = dVal s i k * 10 + (bt s (i + k) - 48) := rfl
theorem digL_val {s : ByteArray} (n : Nat) : ∀ {i : Nat}, Seg s i (digL n) → dVal s i (digL n).length = n := by
  induction n using Nat.strongRecOn with
  | ind n ih =>
    intro i h
    rw [digL] at h ⊢
    split at h
    · rename_i hn
      rw [dif_pos hn]
      have h0 := h 0 _ rfl
      rw [dig_byte n hn] at h0
      simp only [List.length_singleton, dVal, Nat.add_zero] at h0 ⊢
      omega
    · rename_i hn
      rw [dif_neg hn]
      obtain ⟨h1, h2⟩ := h.app
      have hv := ih (n / 10) (by omega) h1
      have h0 := h2.one
      rw [dig_byte (n % 10) (by omega)] at h0
      rw [List.length_append, List.length_singleton, dVal_app, hv, h0]
      omega
/-- A number's digits, and nothing of it behind. -/
theorem numF_digL {s : ByteArray} {M : Md} {i n : Nat} (hn : n < 1000000000) (h : Seg s i (digL n)) (h1 : isDig (bt s (i + (digL n).length)) = false) (h2 : bt s (i + (digL n).length) ≠ 46) (h3 : unitF (bt s (i + (digL n).length)) M.sz M.vs = none) (hone : M.one = 1) :
    numF s M i = .ok (if M.fm then 0 else (n : Int)) (i + (digL n).length) := by
  have hl := digL_len n 8 (by simpa using hn)
  have hp := digL_pos n
  have hd : dCount s i = (digL n).length := dCount_eq (by omega) (fun j hj => by
    have hc := List.getElem?_eq_getElem hj
    rw [h j _ hc]
    have := digL_all n _ (List.getElem_mem hj)
    exact isDig_iff.2 this) (.inl h1)
  have hpt : nPart s i = false := by
    unfold nPart
    rw [hd]
    have : (((bt s (i + (digL n).length) : Nat) : Int) == 46) = false := by simp; omega
    rw [this]; rfl
  have hne : nEnd s i = i + (digL n).length := by unfold nEnd; rw [hpt, hd]; rfl
  have hno : nOne s M i = 1 := by unfold nOne; rw [hne, h3, hone]; rfl
  have hto : nTo s M i = i + (digL n).length := by unfold nTo; rw [hne, h3]; rfl
  have hva : nVal s M i = n := by
    unfold nVal
    rw [hpt, hd, hno, digL_val n h]
    simp
  unfold numF
  rw [if_neg (by rw [hd]; omega), hva, hto]
  unfold bdd
  cases M.fm
  · have hw : within (n : Int) = true := within_iff.2 (by omega)
    simp [hw]
  · rfl

/-- The reckoning goes on with more fuel as it did. -/
theorem ev_mono1 (s : ByteArray) (M : Md) : ∀ (f : Nat) (k : Ki) (r : Res), ev s M f k = some r → ev s M (f + 1) k = some r := by
  intro f
  induction f with
  | zero => intro k r h; cases h
  | succ f ih =>
    intro k r h
    cases k with
    | opd i deep =>
      rw [ev_opd_base] at h ⊢
      rcases hB : baseR s M f (rn s deep i) deep with _ | B
      · rw [hB] at h; cases h
      rw [hB] at h
      have hB' : baseR s M (f + 1) (rn s deep i) deep = some B := by
        unfold baseR at hB ⊢
        by_cases h1 : bt s (rn s deep i) = 40
        · rw [if_pos h1] at hB ⊢
          by_cases h2 : deep < 20
          · rw [if_pos h2] at hB ⊢
            rcases hs : ev s M f (.sum (rn s deep i + 1) (deep + 1)) with _ | q
            · rw [hs] at hB; cases hB
            · rw [hs] at hB
              rw [ih _ _ hs]
              exact hB
          · rw [if_neg h2] at hB ⊢; exact hB
        · rw [if_neg h1] at hB ⊢; exact hB
      rw [hB']; exact h
    | sum i deep =>
      rw [ev_sum] at h ⊢
      rcases hs : ev s M f (.opd i deep) with _ | q
      · rw [hs] at h; cases h
      rw [hs] at h
      rw [ih _ _ hs]
      rcases q with ⟨n, t⟩ | x
      · exact ih _ _ h
      · exact h
    | loop n i deep =>
      simp only [ev] at h
      rw [ev]
      by_cases h13 : opIx s (skp s deep i) = 13
      · rw [if_pos h13] at h ⊢; exact h
      rw [if_neg h13] at h ⊢
      rcases hs : ev s M f (.opd (skp s deep i + (opS (opIx s (skp s deep i))).size) deep) with _ | q
      · rw [hs] at h; cases h
      rw [hs] at h
      rw [ih _ _ hs]
      rcases q with ⟨b, t⟩ | x
      · simp only at h ⊢
        rcases hk : rk M.fm (opIx s (skp s deep i)) n b with v | e
        · rw [hk] at h
          exact ih _ _ h
        · rw [hk] at h; exact h
      · exact h
theorem ev_mono {s : ByteArray} {M : Md} {f g : Nat} {k : Ki} {r : Res} (h : ev s M f k = some r) (hg : f ≤ g) : ev s M g k = some r := by
  obtain ⟨d, rfl⟩ : ∃ d, g = f + d := ⟨g - f, by omega⟩
  induction d with
  | zero => exact h
  | succ d ih => exact ev_mono1 s M _ _ _ (ih (by omega))
theorem evT_of {s : ByteArray} {M : Md} {f : Nat} {r : Res} (h : ev s M f (.sum 0 0) = some r) : evT s M = r := by
  have h1 := ev_mono h (Nat.le_max_left f (fuel s))
  have h2 := ev_mono (evT_eq s M) (Nat.le_max_right f (fuel s))
  rw [h1] at h2
  injection h2 with h2
  exact h2.symm
theorem N2_of {s : ByteArray} {p : Nat} (h : bt s (p + 1) ≠ 61) : ¬ (bt s (p + 1) = 61 ∧ (bt s p = 60 ∨ bt s p = 62 ∨ bt s p = 61)) := fun e => h e.1
theorem opAt1 {s : ByteArray} {p j c : Nat} (hn : bt s (p + 1) ≠ 61) (hc : bt s p = c) (h : (j = 6 ∧ c = 43) ∨ (j = 7 ∧ c = 45) ∨ (j = 8 ∧ c = 42) ∨ (j = 9 ∧ c = 47) ∨ (j = 10 ∧ c = 37) ∨ (j = 3 ∧ c = 60) ∨ (j = 4 ∧ c = 62) ∨ (j = 5 ∧ c = 61) ∨ (j = 11 ∧ c = 38) ∨ (j = 12 ∧ c = 58)) : opIx s p = j := by
  unfold opIx
  rw [hc]
  have hlt := opFor_le c (bt s (p + 1))
  refine opFor_eq (by omega) (fun i hi => ?_) (.inl ?_)
  · rcases h with ⟨rfl, rfl⟩ | ⟨rfl, rfl⟩ | ⟨rfl, rfl⟩ | ⟨rfl, rfl⟩ | ⟨rfl, rfl⟩ | ⟨rfl, rfl⟩ | ⟨rfl, rfl⟩ | ⟨rfl, rfl⟩ | ⟨rfl, rfl⟩ | ⟨rfl, rfl⟩ <;> unfold opHit <;> split <;> simp <;> omega
  · rcases h with ⟨rfl, rfl⟩ | ⟨rfl, rfl⟩ | ⟨rfl, rfl⟩ | ⟨rfl, rfl⟩ | ⟨rfl, rfl⟩ | ⟨rfl, rfl⟩ | ⟨rfl, rfl⟩ | ⟨rfl, rfl⟩ | ⟨rfl, rfl⟩ | ⟨rfl, rfl⟩ <;> rfl
theorem opAt0 {s : ByteArray} {p : Nat} (h : bt s p = 0 ∨ bt s p = 41 ∨ bt s p = 32) : opIx s p = 13 := by
  unfold opIx
  refine opFor_eq (by omega) (fun i hi => ?_) (.inr rfl)
  unfold opHit
  split <;> simp <;> omega
theorem rn_here {s : ByteArray} {deep i : Nat} (h : runny s deep i = false) : rn s deep i = i := by
  unfold rn
  exact scanTo_eq _ _ _ _ (Nat.le_refl _) (by omega) (fun k a b => by omega) (.inl h)
theorem skp_here {s : ByteArray} {deep i : Nat} (h : bt s i ≠ 32) : skp s deep i = i := by
  unfold skp
  exact scanTo_eq _ _ _ _ (Nat.le_refl _) (by omega) (fun k a b => by omega) (.inl (by simp [blk]; omega))
/-- A number where an operand is asked. -/
theorem opd_dig {s : ByteArray} {M : Md} {i deep f : Nat} (h : isDig (bt s i) = true) : ev s M (f + 1) (.opd i deep) = some (numF s M i) := by
  have hd := isDig_iff.1 h
  have hr : runny s deep i = false := by
    have h1 : isSign (bt s i) = false := by simp [isSign]; omega
    have h2 : blk s deep i = false := by simp [blk]; omega
    simp [runny, h1, h2]
  rw [ev_opd_base, rn_here hr]
  unfold baseR
  rw [if_neg (by omega)]
  simp only [Option.map_some, fin_here]
/-- An operator of one byte, and a number behind it. -/
theorem loop_step {s : ByteArray} {M : Md} {i deep j f t : Nat} {n b : Int} (h32 : bt s i ≠ 32) (hj : opIx s i = j) (hj13 : j < 13) (hsz : (opS j).size = 1) (ho : ev s M f (.opd (i + 1) deep) = some (.ok b t)) :
    ev s M (f + 1) (.loop n i deep) = (match rk M.fm j n b with | .bad e => some (.err e) | .val m => ev s M f (.loop m t deep)) := by
  simp only [ev]
  rw [skp_here h32, hj, if_neg (by omega), hsz, ho]
  rfl
theorem loop_end {s : ByteArray} {M : Md} {i deep f : Nat} {n : Int} (h32 : deep = 0 ∨ bt s i ≠ 32) (hj : opIx s i = 13) : ev s M (f + 1) (.loop n i deep) = some (.ok n i) := by
  have hs : skp s deep i = i := by
    rcases h32 with rfl | h
    · exact skp_zero s i
    · exact skp_here h
  simp only [ev]
  rw [hs, if_pos hj]

/-- A byte that ends a number. -/
def Stp (c : Nat) : Prop := isDig c = false ∧ c ≠ 46 ∧ ∀ sz vs, unitF c sz vs = none
theorem stp_of {c : Nat} (h : c = 0 ∨ c = 41 ∨ c = 32 ∨ c = 43 ∨ c = 45 ∨ c = 42 ∨ c = 47 ∨ c = 37 ∨ c = 60 ∨ c = 62 ∨ c = 61 ∨ c = 38 ∨ c = 58) : Stp c := by
  refine ⟨by simp [isDig]; omega, by omega, fun sz vs => ?_⟩
  rcases h with rfl | rfl | rfl | rfl | rfl | rfl | rfl | rfl | rfl | rfl | rfl | rfl | rfl <;> rfl
theorem digL_head (n : Nat) : ∃ c l, digL n = c :: l ∧ 48 ≤ c.toNat ∧ c.toNat ≤ 57 := by
  rcases h : digL n with _ | ⟨c, l⟩
  · have := digL_pos n; rw [h] at this; simp at this
  · exact ⟨c, l, rfl, digL_all n c (by rw [h]; exact List.mem_cons_self ..)⟩
theorem num_at {s : ByteArray} {M : Md} {i n deep f : Nat} (hn : n < 1000000000) (h : Seg s i (digL n)) (hs : Stp (bt s (i + (digL n).length))) (hone : M.one = 1) :
    ev s M (f + 1) (.opd i deep) = some (.ok (if M.fm then 0 else (n : Int)) (i + (digL n).length)) := by
  obtain ⟨c, l, hl, h1, h2⟩ := digL_head n
  have hd : isDig (bt s i) = true := by
    rw [hl] at h
    rw [h.one]
    exact isDig_iff.2 ⟨h1, h2⟩
  rw [opd_dig hd, numF_digL hn h hs.1 hs.2.1 (hs.2.2 _ _) hone]
/-- An operator's byte, and its place in the table. -/
def OpB (j c : Nat) : Prop := (j = 6 ∧ c = 43) ∨ (j = 7 ∧ c = 45) ∨ (j = 8 ∧ c = 42) ∨ (j = 9 ∧ c = 47) ∨ (j = 10 ∧ c = 37) ∨ (j = 3 ∧ c = 60) ∨ (j = 4 ∧ c = 62) ∨ (j = 5 ∧ c = 61) ∨ (j = 11 ∧ c = 38) ∨ (j = 12 ∧ c = 58)
theorem OpB.stp {j c : Nat} (h : OpB j c) : Stp c := stp_of (by unfold OpB at h; omega)
theorem OpB.j {j c : Nat} (h : OpB j c) : j < 13 ∧ (opS j).size = 1 := by
  rcases h with ⟨rfl, rfl⟩ | ⟨rfl, rfl⟩ | ⟨rfl, rfl⟩ | ⟨rfl, rfl⟩ | ⟨rfl, rfl⟩ | ⟨rfl, rfl⟩ | ⟨rfl, rfl⟩ | ⟨rfl, rfl⟩ | ⟨rfl, rfl⟩ | ⟨rfl, rfl⟩ <;> exact ⟨by decide, rfl⟩
/-- An operator, and a number behind it. -/
theorem step_at {s : ByteArray} {M : Md} {i b deep f j : Nat} {n : Int} {c : UInt8} (hj : OpB j c.toNat) (hb : b < 1000000000) (h : Seg s i (c :: digL b)) (hs : Stp (bt s (i + 1 + (digL b).length))) (hone : M.one = 1) :
    ev s M (f + 2) (.loop n i deep) = (match rk M.fm j n (if M.fm then 0 else (b : Int)) with | .bad e => some (.err e) | .val m => ev s M (f + 1) (.loop m (i + 1 + (digL b).length) deep)) := by
  have hc := h.one
  obtain ⟨d, l, hl, h1, h2⟩ := digL_head b
  have hseg : Seg s (i + 1) (digL b) := (Seg.app (l := [c]) h).2
  have hd : bt s (i + 1) ≠ 61 := by
    have := hseg
    rw [hl] at this
    rw [this.one]; omega
  have h32 : bt s i ≠ 32 := by rw [hc]; unfold OpB at hj; omega
  exact loop_step h32 (opAt1 hd hc hj) hj.j.1 hj.j.2 (num_at hb hseg hs hone)
/-- Two operators, from the left. -/
def two (jp jq : Nat) (x y z : Int) : Int × Int :=
  match rk false jp x y with
  | .bad e => (0, e)
  | .val m => match rk false jq m z with
    | .bad e => (0, e)
    | .val v => (v, 0)
theorem size_list (s : ByteArray) : s.size = s.data.toList.length := rfl
theorem left1 {s : ByteArray} {M : Md} {a b c jp jq : Nat} {p q : UInt8} (ha : a < 1000000000) (hb : b < 1000000000) (hc : c < 1000000000) (hp : OpB jp p.toNat) (hq : OpB jq q.toNat)
    (h : s.data.toList = digL a ++ (p :: digL b ++ (q :: digL c))) (hone : M.one = 1) (hfm : M.fm = false) : whole s (evT s M) = two jp jq a b c := by
  have hz : s.size = (digL a).length + (1 + (digL b).length) + (1 + (digL c).length) := by
    rw [size_list, h]; simp; omega
  have hseg := Seg.whole s
  rw [h] at hseg
  obtain ⟨g1, g2⟩ := hseg.app
  obtain ⟨g2, g3⟩ := g2.app
  rw [Nat.zero_add] at g2 g3
  have hlb : (p :: digL b).length = 1 + (digL b).length := by simp; omega
  rw [hlb] at g3
  have e1 : ∀ f, ev s M (f + 1) (.opd 0 0) = some (.ok (a : Int) ((digL a).length)) := fun f => by
    have := num_at (f := f) (deep := 0) (M := M) ha g1 (by rw [Nat.zero_add, g2.one]; exact hp.stp) hone
    rw [this, hfm, Nat.zero_add]; rfl
  have e2 : ∀ f, ev s M (f + 2) (.loop (a : Int) (digL a).length 0) = (match rk false jp a b with | .bad e => some (.err e) | .val m => ev s M (f + 1) (.loop m ((digL a).length + (1 + (digL b).length)) 0)) := fun f => by
    have := step_at (f := f) (deep := 0) (M := M) (n := (a : Int)) hp hb g2 (by rw [Nat.add_assoc, g3.one]; exact hq.stp) hone
    rw [this, hfm]
    rw [Nat.add_assoc]
    rfl
  have e3 : ∀ f m, ev s M (f + 2) (.loop m ((digL a).length + (1 + (digL b).length)) 0) = (match rk false jq m c with | .bad e => some (.err e) | .val v => ev s M (f + 1) (.loop v s.size 0)) := fun f m => by
    have := step_at (f := f) (deep := 0) (M := M) (n := m) hq hc g3 (by rw [bt_end s (by omega)]; exact stp_of (.inl rfl)) hone
    rw [this, hfm, show (digL a).length + (1 + (digL b).length) + 1 + (digL c).length = s.size by omega]
    rfl
  have e4 : ∀ f v, ev s M (f + 1) (.loop v s.size 0) = some (.ok v s.size) := fun f v => loop_end (.inl rfl) (opAt0 (.inl (bt_end s (Nat.le_refl _))))
  have hE : ev s M 4 (.sum 0 0) = (match rk false jp a b with | .bad e => some (.err e) | .val m => match rk false jq m c with | .bad e => some (.err e) | .val v => some (.ok v s.size)) := by
    rw [ev_sum, e1 2]
    simp only
    rw [e2 1]
    rcases rk false jp a b with m | e
    · simp only
      rw [e3 0]
      rcases rk false jq m c with v | e
      · exact e4 0 v
      · rfl
    · rfl
  unfold two
  rcases h1 : rk false jp a b with m | e
  · rw [h1] at hE
    simp only at hE ⊢
    rcases h2 : rk false jq m c with v | e
    · rw [h2] at hE
      rw [evT_of hE]
      simp [whole]
    · rw [h2] at hE
      rw [evT_of hE]
      rfl
  · rw [h1] at hE
    rw [evT_of hE]
    rfl
theorem left2 {s : ByteArray} {M : Md} {a b c jp jq : Nat} {p q : UInt8} (ha : a < 1000000000) (hb : b < 1000000000) (hc : c < 1000000000) (hp : OpB jp p.toNat) (hq : OpB jq q.toNat)
    (h : s.data.toList = [40] ++ (digL a ++ (p :: digL b ++ ([41] ++ (q :: digL c))))) (hone : M.one = 1) (hfm : M.fm = false) : whole s (evT s M) = two jp jq a b c := by
  have hz : s.size = 1 + (digL a).length + (1 + (digL b).length) + 1 + (1 + (digL c).length) := by
    rw [size_list, h]; simp; omega
  have hseg := Seg.whole s
  rw [h] at hseg
  obtain ⟨g0, g1⟩ := hseg.app
  obtain ⟨g1, g2⟩ := g1.app
  obtain ⟨g2, g3⟩ := g2.app
  obtain ⟨g3, g4⟩ := g3.app
  have hlb : (p :: digL b).length = 1 + (digL b).length := by simp; omega
  have hl1 : ([40] : List UInt8).length = 1 := rfl
  have hl2 : ([41] : List UInt8).length = 1 := rfl
  rw [hl1, Nat.zero_add] at g1 g2 g3 g4
  rw [hlb] at g3 g4
  rw [hl2] at g4
  have b0 : bt s 0 = 40 := g0.one
  have b3 : bt s (1 + (digL a).length + (1 + (digL b).length)) = 41 := g3.one
  have e1 : ∀ f, ev s M (f + 1) (.opd 1 1) = some (.ok (a : Int) (1 + (digL a).length)) := fun f => by
    have := num_at (f := f) (deep := 1) (M := M) ha g1 (by rw [g2.one]; exact hp.stp) hone
    rw [this, hfm]; rfl
  have e2 : ∀ f, ev s M (f + 2) (.loop (a : Int) (1 + (digL a).length) 1) = (match rk false jp a b with | .bad e => some (.err e) | .val m => ev s M (f + 1) (.loop m (1 + (digL a).length + (1 + (digL b).length)) 1)) := fun f => by
    have := step_at (f := f) (deep := 1) (M := M) (n := (a : Int)) hp hb g2 (by rw [Nat.add_assoc, b3]; exact stp_of (.inr (.inl rfl))) hone
    rw [this, hfm]
    rw [Nat.add_assoc (1 + (digL a).length)]
    rfl
  have e3 : ∀ f m, ev s M (f + 1) (.loop m (1 + (digL a).length + (1 + (digL b).length)) 1) = some (.ok m (1 + (digL a).length + (1 + (digL b).length))) := fun f m =>
    loop_end (.inr (by rw [b3]; decide)) (opAt0 (.inr (.inl b3)))
  have eS : ev s M 4 (.sum 1 1) = (match rk false jp a b with | .bad e => some (.err e) | .val m => some (.ok m (1 + (digL a).length + (1 + (digL b).length)))) := by
    rw [ev_sum, e1 2]
    simp only
    rw [e2 1]
    rcases rk false jp a b with m | e
    · exact e3 1 m
    · rfl
  have e4 : ev s M 5 (.opd 0 0) = (match rk false jp a b with | .bad e => some (.err e) | .val m => some (.ok m (1 + (digL a).length + (1 + (digL b).length) + 1))) := by
    have hr : rn s 0 0 = 0 := rn_here (by simp [runny, isSign, blk, b0])
    rw [ev_opd_base, hr]
    unfold baseR
    rw [if_pos b0, if_pos (by omega)]
    have eS' : ev s M 4 (.sum (0 + 1) (0 + 1)) = _ := eS
    rw [eS']
    rcases rk false jp a b with m | e
    · simp only
      rw [skp_here (by rw [b3]; decide), if_pos b3]
      simp only [Option.map_some, fin_here]
    · rfl
  have e5 : ∀ f m, ev s M (f + 2) (.loop m (1 + (digL a).length + (1 + (digL b).length) + 1) 0) = (match rk false jq m c with | .bad e => some (.err e) | .val v => ev s M (f + 1) (.loop v s.size 0)) := fun f m => by
    have := step_at (f := f) (deep := 0) (M := M) (n := m) hq hc g4 (by rw [bt_end s (by omega)]; exact stp_of (.inl rfl)) hone
    rw [this, hfm, show 1 + (digL a).length + (1 + (digL b).length) + 1 + 1 + (digL c).length = s.size by omega]
    rfl
  have e6 : ∀ f v, ev s M (f + 1) (.loop v s.size 0) = some (.ok v s.size) := fun f v => loop_end (.inl rfl) (opAt0 (.inl (bt_end s (Nat.le_refl _))))
  have hE : ev s M 6 (.sum 0 0) = (match rk false jp a b with | .bad e => some (.err e) | .val m => match rk false jq m c with | .bad e => some (.err e) | .val v => some (.ok v s.size)) := by
    rw [ev_sum, e4]
    rcases rk false jp a b with m | e
    · simp only
      rw [e5 3]
      rcases rk false jq m c with v | e
      · exact e6 _ v
      · rfl
    · rfl
  unfold two
  rcases h1 : rk false jp a b with m | e
  · rw [h1] at hE
    simp only at hE ⊢
    rcases h2 : rk false jq m c with v | e
    · rw [h2] at hE
      rw [evT_of hE]
      simp [whole]
    · rw [h2] at hE
      rw [evT_of hE]
      rfl
  · rw [h1] at hE
    rw [evT_of hE]
    rfl

/-- A chain of + and -. -/
def chs : List (Bool × Nat) → List UInt8
  | [] => []
  | (b, k) :: r => ((if b then 43 else 45) :: digL k) ++ chs r
def chv : Int → List (Bool × Nat) → Int
  | n, [] => n
  | n, (b, k) :: r => chv (if b then n + (k : Int) else n - (k : Int)) r
theorem chs_app (l m : List (Bool × Nat)) : chs (l ++ m) = chs l ++ chs m := by
  induction l with
  | nil => rfl
  | cons x l ih => obtain ⟨b, k⟩ := x; simp only [List.cons_append, chs, ih, List.append_assoc]
theorem chv_app (n : Int) (l m : List (Bool × Nat)) : chv n (l ++ m) = chv (chv n l) m := by
  induction l generalizing n with
  | nil => rfl
  | cons x l ih => obtain ⟨b, k⟩ := x; simp only [List.cons_append, chv, ih]
theorem chv_bd (n : Int) (l : List (Bool × Nat)) (h : ∀ x ∈ l, x.2 < 1000000) : n - 1000000 * l.length ≤ chv n l ∧ chv n l ≤ n + 1000000 * l.length := by
  induction l generalizing n with
  | nil => simp [chv]
  | cons x l ih =>
    obtain ⟨b, k⟩ := x
    have hk := h (b, k) (List.mem_cons_self ..)
    simp only at hk
    have := ih (if b then n + (k : Int) else n - (k : Int)) (fun y hy => h y (List.mem_cons_of_mem _ hy))
    simp only [chv, List.length_cons]
    cases b <;> simp only [Bool.false_eq_true, if_true, if_false] at this ⊢ <;> omega
theorem chs_len (l : List (Bool × Nat)) (h : ∀ x ∈ l, x.2 < 1000000) : (chs l).length ≤ 7 * l.length := by
  induction l with
  | nil => simp [chs]
  | cons x l ih =>
    obtain ⟨b, k⟩ := x
    have hk := digL_len k 5 (h (b, k) (List.mem_cons_self ..))
    have := ih (fun y hy => h y (List.mem_cons_of_mem _ hy))
    simp only [chs, List.length_append, List.length_cons]
    omega
theorem rk_add (fm : Bool) (n : Int) (k : Nat) (b : Bool) (h : within (if b then n + (k : Int) else n - (k : Int)) = true) : rk fm (if b then 6 else 7) n (if fm then 0 else (k : Int)) = .val (if fm then 0 else (if b then n + (k : Int) else n - (k : Int))) := by
  cases fm
  · cases b
    · simp only [Bool.false_eq_true, if_false] at h ⊢
      simp [rk, ap, h]
    · simp only [Bool.false_eq_true, if_true, if_false] at h ⊢
      simp [rk, ap, h]
  · rfl
theorem chain_loop {s : ByteArray} {M : Md} (hone : M.one = 1) : ∀ (l : List (Bool × Nat)) (i : Nat) (n : Int), Seg s i (chs l) → (bt s (i + (chs l).length) = 0 ∨ bt s (i + (chs l).length) = 32) →
    (∀ x ∈ l, x.2 < 1000000) → -1000000000 ≤ n - 1000000 * l.length → n + 1000000 * l.length ≤ 1000000000 → (M.fm = true → n = 0) →
    ∀ f, ev s M (f + l.length + 2) (.loop n i 0) = some (.ok (if M.fm then 0 else chv n l) (i + (chs l).length)) := by
  intro l
  induction l with
  | nil =>
    intro i n _ he _ _ _ hn f
    have he' : bt s i = 0 ∨ bt s i = 32 := by simpa [chs] using he
    have h13 := loop_end (s := s) (M := M) (i := i) (deep := 0) (f := f + 1) (n := n) (.inl rfl) (opAt0 (by omega))
    refine h13.trans ?_
    cases hf : M.fm
    · rfl
    · rw [hn hf]; rfl
  | cons x l ih =>
    obtain ⟨b, k⟩ := x
    intro i n h he hk h1 h2 hn f
    have hkk := hk (b, k) (List.mem_cons_self ..)
    simp only at hkk
    have hk' : ∀ x ∈ l, x.2 < 1000000 := fun y hy => hk y (List.mem_cons_of_mem _ hy)
    simp only [chs] at h he ⊢
    rw [List.length_append, List.length_cons] at he ⊢
    obtain ⟨g1, g2⟩ := h.app
    rw [List.length_cons] at g2
    have hlen : (l.length : Int) ≥ 0 := by omega
    simp only [List.length_cons] at h1 h2
    have hstp : Stp (bt s (i + 1 + (digL k).length)) := by
      rw [show i + 1 + (digL k).length = i + ((digL k).length + 1) by omega]
      cases l with
      | nil => exact stp_of (by simp [chs] at he; omega)
      | cons y l =>
        obtain ⟨b', k'⟩ := y
        simp only [chs] at g2
        have := g2.app.1.one
        rw [this]
        cases b'
        · exact stp_of (by decide)
        · exact stp_of (by decide)
    have hop : OpB (if b then 6 else 7) (if b then (43 : UInt8) else 45).toNat := by
      cases b
      · exact .inr (.inl ⟨rfl, rfl⟩)
      · exact .inl ⟨rfl, rfl⟩
    have hst := step_at (f := f + l.length + 1) (deep := 0) (M := M) (n := n) hop (by omega) g1 hstp hone
    have hw : within (if b then n + (k : Int) else n - (k : Int)) = true := by
      rw [within_iff]
      cases b <;> simp only [Bool.false_eq_true, if_true, if_false] <;> omega
    rw [rk_add M.fm n k b hw] at hst
    simp only at hst
    have hi := ih (i + ((digL k).length + 1)) (if M.fm then 0 else (if b then n + (k : Int) else n - (k : Int))) g2 (by rw [← Nat.add_assoc] at he; rw [Nat.add_assoc i, Nat.add_assoc]; rw [Nat.add_assoc] at he; simpa [Nat.add_assoc] using he) hk'
      (by cases M.fm <;> cases b <;> simp only [Bool.false_eq_true, if_true, if_false] <;> omega) (by cases M.fm <;> cases b <;> simp only [Bool.false_eq_true, if_true, if_false] <;> omega) (fun hf => by rw [hf]; rfl) f
    rw [show f + (l.length + 1) + 2 = f + l.length + 1 + 2 by omega, List.length_cons] at *
    rw [hst, show i + 1 + (digL k).length = i + ((digL k).length + 1) by omega, hi, Nat.add_assoc]
    cases M.fm <;> rfl
theorem digL_0 : digL 0 = [48] := by rw [digL]; rfl
theorem chain_ev {s : ByteArray} {M : Md} {l : List (Bool × Nat)} {t : List UInt8} (hone : M.one = 1) (h : s.data.toList = 48 :: chs l ++ t) (ht : t = [] ∨ ∃ t', t = 32 :: t') (hk : ∀ x ∈ l, x.2 < 1000000) (hl : l.length ≤ 1000) :
    evT s M = .ok (if M.fm then 0 else chv 0 l) (1 + (chs l).length) := by
  have hseg := Seg.whole s
  rw [h, show (48 :: chs l ++ t : List UInt8) = digL 0 ++ (chs l ++ t) by rw [digL_0]; rfl] at hseg
  obtain ⟨g1, g2⟩ := hseg.app
  obtain ⟨g2, g3⟩ := g2.app
  have hd : (digL 0).length = 1 := by rw [digL_0]; rfl
  rw [hd, Nat.zero_add] at g2 g3
  have he : bt s (1 + (chs l).length) = 0 ∨ bt s (1 + (chs l).length) = 32 := by
    rcases ht with rfl | ⟨t', rfl⟩
    · left
      apply bt_end
      rw [size_list, h]; simp; omega
    · right
      exact g3.one
  have hs1 : Stp (bt s (0 + (digL 0).length)) := by
    rw [hd]
    cases l with
    | nil =>
      have he' : bt s (0 + 1) = 0 ∨ bt s (0 + 1) = 32 := by simpa [chs] using he
      exact stp_of (by omega)
    | cons y l =>
      obtain ⟨b', k'⟩ := y
      simp only [chs] at g2
      rw [g2.app.1.one]
      cases b'
      · exact stp_of (by decide)
      · exact stp_of (by decide)
  have e1 : ∀ f, ev s M (f + 1) (.opd 0 0) = some (.ok 0 1) := fun f => by
    have := num_at (f := f) (deep := 0) (M := M) (n := 0) (by omega) g1 hs1 hone
    rw [this, hd]
    cases M.fm <;> rfl
  have hE := chain_loop hone l 1 0 g2 he hk (by omega) (by omega) (fun _ => rfl) 0
  have : ev s M (0 + l.length + 2 + 1) (.sum 0 0) = some (.ok (if M.fm then 0 else chv 0 l) (1 + (chs l).length)) := by
    rw [ev_sum, e1 (0 + l.length + 1)]
    exact hE
  exact evT_of this
theorem arg_u : argF 117 0 0 0 = some 1 := rfl
theorem chain_eval {s : ByteArray} {l : List (Bool × Nat)} (h : s.data.toList = 48 :: chs l) (hk : ∀ x ∈ l, x.2 < 1000000) (hl : l.length ≤ 1000) : evalA s 117 0 0 0 = (chv 0 l, 0) := by
  unfold evalA
  rw [arg_u]
  simp only
  rw [chain_ev (l := l) (t := []) rfl (by rw [h, List.append_nil]) (.inl rfl) hk hl]
  have : s.size = 1 + (chs l).length := by rw [size_list, h]; simp; omega
  simp [whole, this]
theorem chain_prefix {s : ByteArray} {l : List (Bool × Nat)} {t : List UInt8} (h : s.data.toList = 48 :: chs l ++ 32 :: t) (hk : ∀ x ∈ l, x.2 < 1000000) (hl : l.length ≤ 1000) : prefixA s 117 0 0 0 = (chv 0 l, ((1 + (chs l).length : Nat) : Int), 0) := by
  have hb : begF s = 1 + (chs l).length := by
    unfold begF
    have : evT s M0 = evT s ⟨1, 0, 0, 0, true⟩ := by
      unfold evT
      rw [ev_form s M0 ⟨1, 0, 0, 0, true⟩ rfl rfl]
    rw [this, chain_ev (l := l) (t := 32 :: t) rfl h (.inr ⟨t, rfl⟩) hk hl]
  have he : evalA (s.extract 0 (begF s)) 117 0 0 0 = (chv 0 l, 0) := chain_eval (by
    rw [hb]
    simp only [ByteArray.data_extract, Array.toList_extract]
    rw [List.extract_eq_take_drop, h]
    simp [Nat.add_comm 1]) hk hl
  unfold prefixA
  rw [he, hb]
  simp
theorem left_eq {s1 s2 : ByteArray} {a b c jp jq : Nat} {p q : UInt8} (ha : a < 1000000000) (hb : b < 1000000000) (hc : c < 1000000000) (hp : OpB jp p.toNat) (hq : OpB jq q.toNat)
    (h1 : s1.data.toList = digL a ++ (p :: digL b ++ (q :: digL c))) (h2 : s2.data.toList = [40] ++ (digL a ++ (p :: digL b ++ ([41] ++ (q :: digL c))))) : evalA s1 117 0 0 0 = evalA s2 117 0 0 0 := by
  unfold evalA
  rw [arg_u]
  simp only
  rw [left1 ha hb hc hp hq h1 rfl rfl, left2 ha hb hc hp hq h2 rfl rfl]
end Go.Proofs.YtonhglhdbpmnhaaDoor
