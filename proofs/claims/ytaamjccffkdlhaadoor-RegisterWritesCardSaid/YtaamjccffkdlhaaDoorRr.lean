/- Walk: the document's reading of roman numerals. -/
import Derived.Test.YtaamjccffkdlhaaDoorRq
import Derived.Deep.RegionHeld3
namespace Go.Proofs.YtaamjccffkdlhaaDoor
open Go.RowKit

/-- The first k bytes in small letters. -/
def mloL (l : List UInt8) (k : Nat) : List UInt8 := (l.take k).map Lib.lowerB ++ l.drop k
theorem mloL_len (l : List UInt8) (k : Nat) : (mloL l k).length = l.length := by simp [mloL]; omega
theorem mloL_at {l : List UInt8} {k : Nat} (h : k < l.length) : (mloL l k)[k]? = some l[k] := by
  unfold mloL
  rw [List.getElem?_append_right (by simp; omega)]
  simp [Nat.min_eq_left (Nat.le_of_lt h), h]
theorem mloL_step {l : List UInt8} {k : Nat} (h : k < l.length) : mloL l (k + 1) = (mloL l k).set k (Lib.lowerB l[k]) := by
  unfold mloL
  rw [List.take_succ_eq_append_getElem h, List.map_append, List.append_assoc, List.set_append_right _ _ (by simp; omega)]
  congr 1
  have : k - ((l.take k).map Lib.lowerB).length = 0 := by simp; omega
  rw [this, List.drop_eq_getElem_cons h]
  rfl
theorem mloL_same {l : List UInt8} {k : Nat} (h : k < l.length) (hu : Lib.lowerB l[k] = l[k]) : mloL l (k + 1) = mloL l k := by
  rw [mloL_step h, hu]
  apply List.ext_getElem?
  intro j
  by_cases e : j = k
  · subst e
    rw [List.getElem?_set_self (by rw [mloL_len]; exact h), mloL_at h]
  · rw [List.getElem?_set_ne (fun e' => e e'.symm)]
theorem mloL_all (l : List UInt8) : mloL l l.length = loL l := by simp [mloL, loL]
theorem lowerB_yes {c : UInt8} (h1 : 65 ≤ c.toNat) (h2 : c.toNat ≤ 90) : ((Lib.lowerB c).toNat : Int) = (c.toNat : Int) + 32 := by
  have : Lib.lowerB c = c + 32 := by
    unfold Lib.lowerB Lib.isUpperB
    rw [if_pos]
    simp only [Bool.and_eq_true, decide_eq_true_eq, UInt8.le_iff_toNat_le]
    exact ⟨h1, h2⟩
  rw [this, UInt8.toNat_add]
  have : (32 : UInt8).toNat = 32 := rfl
  omega
theorem lowerB_no {c : UInt8} (h : c.toNat < 65 ∨ 90 < c.toNat) : Lib.lowerB c = c := by
  unfold Lib.lowerB Lib.isUpperB
  rw [if_neg]
  simp only [Bool.and_eq_true, decide_eq_true_eq, UInt8.le_iff_toNat_le]
  have e1 : (65 : UInt8).toNat = 65 := rfl
  have e2 : (90 : UInt8).toNat = 90 := rfl
  omega
theorem RowU8.below {w w' : World} {g : Nat} {l : List UInt8} (h : RowU8 w g l) (hb : Below w.heap.size w w') : RowU8 w' g l := by
  intro i c hc
  obtain ⟨h1, h2⟩ := h i c hc
  have hlt : g < w.heap.size := by
    rcases Nat.lt_or_ge g w.heap.size with h | h
    · exact h
    · unfold World.cell? at h1
      simp [Array.getElem?_eq_none h] at h1
  exact ⟨by rw [hb.cell (p := ⟨g, i, none⟩) hlt]; exact h1, by rw [hb.frozen (p := ⟨g, i, none⟩) hlt]; exact h2⟩
theorem sbt_next {l : List UInt8} {k : Nat} {z : Int} (h : k < l.length) : sbt (l.drop k) z = if dgv l[k] = 0 then none else sbt (l.drop (k + 1)) (z + (if dgv l[k] < ((l.drop (k + 1)).head?.map dgv).getD 0 then -(dgv l[k] : Int) else dgv l[k])) := by
  rw [List.drop_eq_getElem_cons h, sbt_cons]
theorem head_drop {l : List UInt8} {k : Nat} (h : k < l.length) : ((l.drop k).head?.map dgv).getD 0 = dgv l[k] := by
  rw [List.drop_eq_getElem_cons h]; rfl
def RLo (s : ByteArray) (g : Nat) (w : World) (v5 : Value) (wr : World) : Prop :=
  ∃ k : Nat, k ≤ s.size ∧ v5 = .int .i64 k ∧ RowU8 wr g (mloL s.data.toList k) ∧ Below w.heap.size w wr
def RSb (l : List UInt8) (g : Nat) (w : World) (v6 v7 : Value) (wr : World) : Prop :=
  ∃ (k : Nat) (z : Int), k ≤ l.length ∧ v7 = .int .i64 k ∧ v6 = .int .i64 z ∧ -1000 * (k : Int) ≤ z ∧ z ≤ 1000 * (k : Int) ∧ sbt (l.drop k) z = sbt l 0 ∧ RowU8 wr g l ∧ Below w.heap.size w wr
theorem ba_tl (l : List UInt8) : (⟨l.toArray⟩ : ByteArray).toList = l := by rw [ByteArray.toList_eq]
/-- The document's answer. -/
def refOk (s l : List UInt8) : Bool := !s.isEmpty && (s == l || s == upL l)
def refT (l : List UInt8) (t : Option Int) : Int × Int := match t with
  | none => (0, 4)
  | some n => if 1 ≤ n ∧ n ≤ 39999 ∧ romL n.toNat = l then (n, 0) else (0, 4)
def refA (s l : List UInt8) : Int × Int := if refOk s l then refT l (sbt l 0) else (0, 4)
set_option maxHeartbeats 1000000 in
set_option maxRecDepth 100000 in
theorem nRoman0 (s : ByteArray) (hs : s.size ≤ 200) (w : World) :
    Calls Tryd.prog 10 #[.string s] w fun e w' => e = .returned (.tuple #[.int .i64 (refA s.data.toList (loL s.data.toList)).1, .int .i64 (refA s.data.toList (loL s.data.toList)).2]) ∧ Below w.heap.size w w' := by
  obtain ⟨V, hV⟩ : ∃ V, V = (refA s.data.toList (loL s.data.toList)).1 := ⟨_, rfl⟩
  obtain ⟨E, hE⟩ : ∃ E, E = (refA s.data.toList (loL s.data.toList)).2 := ⟨_, rfl⟩
  rw [← hV, ← hE]
  have HV := Lib.hid hV
  have HE := Lib.hid hE
  clear hV hE
  have hcv := run_bytes_of_string (P := Tryd.prog) w 9 41 5 s Tryd.underlying9 Tryd.underlying41 Tryd.underlying5
  go_enter Tryd.func10, Tryd.ntmps10
  go_wp2_with fail
  clear hcv
  generalize grownCap w s.size 0 5 = cap
  have hrow := bytesRow_u8 w s cap
  have hb0 : Below w.heap.size w (w.alloc (.cells (bytesRow s cap) 5 ((bytesRow s cap).size, (bytesRow s cap).size + 1))) := (Below.refl _ _).alloc (Nat.le_refl _) _
  have hr0 : RowU8 ((w.alloc (.cells (bytesRow s cap) 5 ((bytesRow s cap).size, (bytesRow s cap).size + 1))).drew) w.heap.size s.data.toList := hrow
  have hb1 := hb0.drew
  have hlen : s.data.toList.length = s.size := rfl
  clear hrow hb0
  generalize (w.alloc (.cells (bytesRow s cap) 5 ((bytesRow s cap).size, (bytesRow s cap).size + 1))).drew = wo at hr0 hb1 ⊢
  have HR0 := Lib.hid hr0
  clear hr0
  obtain ⟨g, hg⟩ : ∃ g, g = w.heap.size := ⟨_, rfl⟩
  rw [← hg] at HR0 ⊢
  have HG := Lib.hid hg
  clear hg
  go_loopw [5] (fun v5 wr => RLo s g w v5 wr) (fun v5 _ => s.size - (intOf v5).toNat)
  case atStart => exact ⟨0, Nat.zero_le _, rfl, by simpa [mloL] using HR0.out, hb1⟩
  case round =>
    clear hb1 HR0
    obtain ⟨k, hk, rfl, hrow, hb⟩ := hrel
    by_cases hlt : k < s.size
    · have hk' : k < s.data.toList.length := by omega
      obtain ⟨hc, hf⟩ := hrow k _ (mloL_at hk')
      obtain ⟨c, hcc⟩ : ∃ c, c = s.data.toList[k] := ⟨_, rfl⟩
      rw [← hcc] at hc
      have HC := Lib.hid hcc
      have HR := Lib.hid hrow
      clear hcc hrow
      have hc256 := c.toNat_lt
      by_cases h1 : 65 ≤ c.toNat
      · by_cases h2 : c.toNat ≤ 90
        · go_wp2_with fail
          go_roundw
          case rel =>
            have hk' : k < s.data.toList.length := by omega
            refine ⟨k + 1, by omega, by go_num, ?_, hb.setCell (by rw [HG.out]; exact Nat.le_refl _) _⟩
            rw [mloL_step hk', ← HC.out, ← lowerB_yes h1 h2]
            exact HR.out.put (by rw [mloL_len]; exact hk') _
          case measure => simp [intOf]; omega
        · go_wp2_with fail
          go_roundw
          case rel =>
            have hk' : k < s.data.toList.length := by omega
            refine ⟨k + 1, by omega, by go_num, ?_, hb⟩
            rw [mloL_same hk' (by rw [← HC.out]; exact lowerB_no (.inr (by omega)))]
            exact HR.out
          case measure => simp [intOf]; omega
      · go_wp2_with fail
        go_roundw
        case rel =>
          have hk' : k < s.data.toList.length := by omega
          refine ⟨k + 1, by omega, by go_num, ?_, hb⟩
          rw [mloL_same hk' (by rw [← HC.out]; exact lowerB_no (.inl (by omega)))]
          exact HR.out
        case measure => simp [intOf]; omega
    · obtain rfl : k = s.size := by omega
      rw [← hlen, mloL_all] at hrow
      have hll : (loL s.data.toList).length = s.size := by simp [loL]
      obtain ⟨l, hle⟩ : ∃ l, l = loL s.data.toList := ⟨_, rfl⟩
      rw [← hle] at hrow hll HV HE
      have kc := hrow.str
      rw [hll] at kc
      have kc1 := kc cap
      have HR := Lib.hid hrow
      have HL := Lib.hid hll
      have HLe := Lib.hid hle
      clear kc hrow hll hle
      have hL1 : (⟨l.toArray⟩ : ByteArray).toList = l := ba_tl l
      have HG1 : Hid (∀ w, Calls Tryd.prog 19 #[.string ⟨l.toArray⟩] w fun e w' => e = .returned (.string ⟨(upL l).toArray⟩) ∧ Below w.heap.size w w') := Lib.hid (fun w => by
        have := nGreat ⟨l.toArray⟩ (by rw [mk_size, HL.out]; omega) w
        simpa using this)
      have hL2 : (⟨(upL l).toArray⟩ : ByteArray).toList = upL l := ba_tl _
      have HSt : Hid (s.toList = s.data.toList) := Lib.hid (ByteArray.toList_eq s)
      generalize (⟨l.toArray⟩ : ByteArray) = Lb at kc1 hL1 HG1
      generalize (⟨(upL l).toArray⟩ : ByteArray) = Ub at HG1 hL2
      by_cases h0 : s.size = 0
      · have e0 : s.toList = [] := by rw [HSt.out]; exact List.length_eq_zero_iff.1 h0
        have hn : refOk s.data.toList l = false := by unfold refOk; rw [← HSt.out, e0]; rfl
        have hA : refA s.data.toList l = (0, 4) := by unfold refA; rw [hn]; rfl
        have v0 : V = 0 := by rw [HV.out, hA]
        have v4 : E = 4 := by rw [HE.out, hA]
        subst v0 v4
        have e1 : s.toList.isEmpty = true := by rw [e0]; rfl
        clear hn hA
        go_wp2_with fail
        go_ret2
        exact ⟨rfl, hb⟩
      · obtain ⟨q1, q2⟩ := toList_ne h0
        have hne : s.data.toList.isEmpty = false := by rw [← HSt.out]; exact q1
        cases e1 : (s.toList == Lb.toList)
        · cases e2 : (s.toList == Ub.toList)
          · have hn : refOk s.data.toList l = false := by unfold refOk; rw [← hL1, ← hL2, ← HSt.out, ← hL2] at *; simp_all
            have hA : refA s.data.toList l = (0, 4) := by unfold refA; rw [hn]; rfl
            have v0 : V = 0 := by rw [HV.out, hA]
            have v4 : E = 4 := by rw [HE.out, hA]
            subst v0 v4
            clear hn hA hL1 hL2 hne
            go_wp2_with (go_at_call 19; refine (HG1.out _).mono ?_; rintro e w2 ⟨rfl, hb2⟩)
            go_ret2
            exact ⟨rfl, ntrans hb hb2⟩
          · have HOK : Hid (refOk s.data.toList l = true) := Lib.hid (by
              unfold refOk
              rw [hL2, HSt.out] at e2
              rw [hne, e2]; simp)
            clear hL1 hL2 hne
            go_wp2_with (go_at_call 19; refine (HG1.out _).mono ?_; rintro e w2 ⟨rfl, hb2⟩)
            have hbq := ntrans hb hb2
            have HRq := Lib.hid (HR.out.below hb2)
            clear hb hb2 HR kc1 e1 e2 h0 q1 q2 HG1
            go_loopw [6, 7] (fun v6 v7 wr => RSb l g w v6 v7 wr) (fun _ v7 _ => l.length - (intOf v7).toNat)
            case atStart => exact ⟨0, 0, Nat.zero_le _, rfl, rfl, by omega, by omega, rfl, HRq.out, hbq⟩
            case round =>
              clear hbq HRq
              obtain ⟨k, z, hk, rfl, rfl, hz1, hz2, hsb, hrow, hb⟩ := hrel
              have HS := Lib.hid hsb
              clear hsb
              have hl200 : l.length ≤ 200 := by rw [HL.out]; omega
              by_cases hlt : k < l.length
              · have hlt' : k < s.size := by rw [← HL.out]; exact hlt
                obtain ⟨hc, _⟩ := hrow k _ (List.getElem?_eq_getElem hlt)
                have hstep := sbt_next (z := z) hlt
                have HR := Lib.hid hrow
                clear hrow
                generalize l[k] = c at hc hstep
                have HD := Lib.hid (fun w => nDgt c w)
                have hd1000 := dgv_le c
                have hc256 := c.toNat_lt
                by_cases hd0 : dgv c = 0
                · have hT : sbt l 0 = none := by rw [← HS.out, hstep, if_pos hd0]
                  have hA : refA s.data.toList l = (0, 4) := by unfold refA; rw [HOK.out, if_pos rfl, hT]; rfl
                  have v0 : V = 0 := by rw [HV.out, hA]
                  have v4 : E = 4 := by rw [HE.out, hA]
                  subst v0 v4
                  rw [hd0] at HD
                  have c0 : ((0 : Nat) : Int) = 0 := rfl
                  rw [c0] at HD
                  clear hA hT hstep hd0 c0
                  go_wp2_with (go_at_call 22; refine (HD.out _).mono ?_; rintro e w2 ⟨rfl, hb2⟩)
                  go_ret2
                  exact ⟨rfl, ntrans hb hb2⟩
                · rw [if_neg hd0] at hstep
                  have hd0' : ¬ ((dgv c : Int) = 0) := by omega
                  by_cases hn : k + 1 < l.length
                  · have hn' : (k : Int) + 1 < (s.size : Int) := by have := HL.out; omega
                    rw [head_drop hn] at hstep
                    have hcn : ∀ w2, Below wr.heap.size wr w2 → w2.cell? ⟨g, k + 1, none⟩ = some (.int .u8 (l[k + 1].toNat : Int)) := fun w2 hb2 => (HR.out.below hb2 (k + 1) _ (List.getElem?_eq_getElem hn)).1
                    have HCN := Lib.hid hcn
                    clear hcn
                    generalize l[k + 1] = d at HCN hstep
                    have HDd := Lib.hid (fun w => nDgt d w)
                    have hdd := dgv_le d
                    have hd256 := d.toNat_lt
                    have HST := Lib.hid hstep
                    clear hstep
                    by_cases hgt : dgv c < dgv d
                    · have hgt' : (dgv c : Int) < (dgv d : Int) := by omega
                      generalize hcz : (dgv c : Int) = C at HD hd0' hgt'
                      generalize (dgv d : Int) = D at HDd hgt'
                      have HC := Lib.hid hcz
                      have hC1 : 0 ≤ C := by omega
                      have hC2 : C ≤ 1000 := by omega
                      clear hcz
                      go_wp2_with (first
                        | (go_at_call 22; with_reducible refine (HD.out _).mono ?_; rintro e w2 ⟨rfl, hb2⟩; have hcc := HCN.out w2 hb2)
                        | (go_at_call 22; with_reducible refine (HDd.out _).mono ?_; rintro e w3 ⟨rfl, hb3⟩))
                      go_roundw
                      case rel =>
                        have hh := HST.out
                        rw [if_pos hgt, HC.out] at hh
                        exact ⟨k + 1, z + -C, by omega, by go_num, rfl, by omega, by omega, hh.symm.trans HS.out, (HR.out.below hb2).below hb3, ntrans (ntrans hb hb2) hb3⟩
                      case measure => simp [intOf]; omega
                    · have hgt' : ¬ (dgv c : Int) < (dgv d : Int) := by omega
                      generalize hcz : (dgv c : Int) = C at HD hd0' hgt'
                      generalize (dgv d : Int) = D at HDd hgt'
                      have HC := Lib.hid hcz
                      have hC1 : 0 ≤ C := by omega
                      have hC2 : C ≤ 1000 := by omega
                      clear hcz
                      go_wp2_with (first
                        | (go_at_call 22; with_reducible refine (HD.out _).mono ?_; rintro e w2 ⟨rfl, hb2⟩; have hcc := HCN.out w2 hb2)
                        | (go_at_call 22; with_reducible refine (HDd.out _).mono ?_; rintro e w3 ⟨rfl, hb3⟩))
                      go_roundw
                      case rel =>
                        have hh := HST.out
                        rw [if_neg hgt, HC.out] at hh
                        exact ⟨k + 1, z + C, by omega, by go_num, rfl, by omega, by omega, hh.symm.trans HS.out, (HR.out.below hb2).below hb3, ntrans (ntrans hb hb2) hb3⟩
                      case measure => simp [intOf]; omega
                  · have hn' : ¬ ((k : Int) + 1 < (s.size : Int)) := by have := HL.out; omega
                    have hdn : l.drop (k + 1) = [] := List.drop_eq_nil_of_le (by omega)
                    rw [hdn] at hstep
                    have HST := Lib.hid hstep
                    have HDN := Lib.hid hdn
                    clear hstep hdn
                    generalize hcz : (dgv c : Int) = C at HD hd0'
                    have HC := Lib.hid hcz
                    have hC1 : 0 ≤ C := by omega
                    have hC2 : C ≤ 1000 := by omega
                    clear hcz
                    go_wp2_with (go_at_call 22; with_reducible refine (HD.out _).mono ?_; rintro e w2 ⟨rfl, hb2⟩)
                    go_roundw
                    case rel =>
                      have hh := HST.out
                      rw [if_neg (by simp), HC.out] at hh
                      exact ⟨k + 1, z + C, by omega, by go_num, rfl, by omega, by omega, by rw [HDN.out]; exact hh.symm.trans HS.out, HR.out.below hb2, ntrans hb hb2⟩
                    case measure => simp [intOf]; omega
              · obtain rfl : k = l.length := by omega
                have hnl : ¬ l.length < s.size := by rw [HL.out]; omega
                have hT : sbt l 0 = some z := by rw [← HS.out, List.drop_length]; rfl
                have hA : refA s.data.toList l = refT l (some z) := by unfold refA; rw [HOK.out, if_pos rfl, hT]
                have HA := Lib.hid hA
                have HR := Lib.hid hrow
                clear hA hT hrow
                have hS : ∀ w', RowU8 w' g l → (convert 41 9 (.slice (some ⟨g, 0, none⟩) s.size cap)).run Tryd.prog w' = .ok (.string ⟨l.toArray⟩) w' := fun w' h => by
                  have := h.str cap
                  rw [HL.out] at this
                  exact this
                have HSS := Lib.hid hS
                clear hS
                by_cases hz : 1 ≤ z ∧ z ≤ 39999
                · obtain ⟨hza, hzb⟩ := hz
                  have H4 := Lib.hid (fun w => nRom z.toNat (by omega) w)
                  rw [show (z.toNat : Int) = z by omega] at H4
                  have r1 := ba_tl (romL z.toNat)
                  have r2 := ba_tl l
                  by_cases he : romL z.toNat = l
                  · have v0 : V = z := by rw [HV.out, HA.out, refT, if_pos ⟨hza, hzb, he⟩]
                    have v4 : E = 0 := by rw [HE.out, HA.out, refT, if_pos ⟨hza, hzb, he⟩]
                    subst v0 v4
                    have hB : ((⟨(romL V.toNat).toArray⟩ : ByteArray).toList == (⟨l.toArray⟩ : ByteArray).toList) = true := by rw [r1, r2, he]; exact beq_self_eq_true _
                    generalize (⟨(romL V.toNat).toArray⟩ : ByteArray) = R at H4 hB
                    generalize (⟨l.toArray⟩ : ByteArray) = X at HSS hB
                    clear r1 r2 he
                    have hg1 : decide (V < 1) = false := decide_eq_false (by omega)
                    have hg2 : decide ((39999 : Int) < V) = false := decide_eq_false (by omega)
                    go_wp2_with fail
                    go_region_held3 (fun w' => (convert 41 9 (.slice (some ⟨g, 0, none⟩) s.size cap)).run Tryd.prog w' = .ok (.string X) w' ∧ RowU8 w' g l ∧ Below w.heap.size w w')
                      (first | exact ⟨HSS.out _ HR.out, HR.out, hb⟩ | exact ⟨HSS.out _ HR.out, HR.out, hb.drew⟩ | exact ⟨HSS.out _ (HR.out.below hb2), HR.out.below hb2, ntrans hb hb2⟩ | exact ⟨HSS.out _ (RowU8.below (w := wr.drew) HR.out hb2), RowU8.below (w := wr.drew) HR.out hb2, ntrans hb.drew hb2⟩)
                      (first | (go_at_call 17; with_reducible refine (H4.out _).mono ?_; rintro e w2 ⟨rfl, hb2⟩))
                    have hbf := ntrans hb.drew hb2
                    go_wp2_with fail
                    go_ret2
                    exact ⟨rfl, hbf⟩
                  · have hno : ¬ (1 ≤ z ∧ z ≤ 39999 ∧ romL z.toNat = l) := fun h => he h.2.2
                    have v0 : V = 0 := by rw [HV.out, HA.out, refT, if_neg hno]
                    have v4 : E = 4 := by rw [HE.out, HA.out, refT, if_neg hno]
                    subst v0 v4
                    have hB : ((⟨(romL z.toNat).toArray⟩ : ByteArray).toList == (⟨l.toArray⟩ : ByteArray).toList) = false := by rw [r1, r2]; simpa using he
                    generalize (⟨(romL z.toNat).toArray⟩ : ByteArray) = R at H4 hB
                    generalize (⟨l.toArray⟩ : ByteArray) = X at HSS hB
                    clear r1 r2 he hno
                    have hg1 : decide (z < 1) = false := decide_eq_false (by omega)
                    have hg2 : decide ((39999 : Int) < z) = false := decide_eq_false (by omega)
                    go_wp2_with fail
                    go_region_held3 (fun w' => (convert 41 9 (.slice (some ⟨g, 0, none⟩) s.size cap)).run Tryd.prog w' = .ok (.string X) w' ∧ RowU8 w' g l ∧ Below w.heap.size w w')
                      (first | exact ⟨HSS.out _ HR.out, HR.out, hb⟩ | exact ⟨HSS.out _ HR.out, HR.out, hb.drew⟩ | exact ⟨HSS.out _ (HR.out.below hb2), HR.out.below hb2, ntrans hb hb2⟩ | exact ⟨HSS.out _ (RowU8.below (w := wr.drew) HR.out hb2), RowU8.below (w := wr.drew) HR.out hb2, ntrans hb.drew hb2⟩)
                      (first | (go_at_call 17; with_reducible refine (H4.out _).mono ?_; rintro e w2 ⟨rfl, hb2⟩))
                    have hbf := ntrans hb.drew hb2
                    go_wp2_with fail
                    go_ret2
                    exact ⟨rfl, hbf⟩
                · have hno : ¬ (1 ≤ z ∧ z ≤ 39999 ∧ romL z.toNat = l) := fun h => hz ⟨h.1, h.2.1⟩
                  have v0 : V = 0 := by rw [HV.out, HA.out, refT, if_neg hno]
                  have v4 : E = 4 := by rw [HE.out, HA.out, refT, if_neg hno]
                  subst v0 v4
                  clear hno
                  by_cases hz1' : z < 1
                  · have hg1 : decide (z < 1) = true := decide_eq_true hz1'
                    go_wp2_with fail
                    go_quiet (fail)
                    have hbf := below_drewN hb nq
                    go_wp2_with fail
                    go_ret2
                    exact ⟨rfl, hbf⟩
                  · have hg1 : decide (z < 1) = false := decide_eq_false hz1'
                    have hg2 : decide ((39999 : Int) < z) = true := decide_eq_true (by omega)
                    go_wp2_with fail
                    go_quiet (fail)
                    have hbf := below_drewN hb nq
                    go_wp2_with fail
                    go_ret2
                    exact ⟨rfl, hbf⟩
        · have HOK : Hid (refOk s.data.toList l = true) := Lib.hid (by
            unfold refOk
            rw [hL1, HSt.out] at e1
            rw [hne, e1]; simp)
          clear hL1 hL2 hne
          go_wp2_with fail
          have hbq := hb
          have HRq := HR
          clear hb HR kc1 e1 h0 q1 q2 HG1
          go_loopw [6, 7] (fun v6 v7 wr => RSb l g w v6 v7 wr) (fun _ v7 _ => l.length - (intOf v7).toNat)
          case atStart => exact ⟨0, 0, Nat.zero_le _, rfl, rfl, by omega, by omega, rfl, HRq.out, hbq⟩
          case round =>
            clear hbq HRq
            obtain ⟨k, z, hk, rfl, rfl, hz1, hz2, hsb, hrow, hb⟩ := hrel
            have HS := Lib.hid hsb
            clear hsb
            have hl200 : l.length ≤ 200 := by rw [HL.out]; omega
            by_cases hlt : k < l.length
            · have hlt' : k < s.size := by rw [← HL.out]; exact hlt
              obtain ⟨hc, _⟩ := hrow k _ (List.getElem?_eq_getElem hlt)
              have hstep := sbt_next (z := z) hlt
              have HR := Lib.hid hrow
              clear hrow
              generalize l[k] = c at hc hstep
              have HD := Lib.hid (fun w => nDgt c w)
              have hd1000 := dgv_le c
              have hc256 := c.toNat_lt
              by_cases hd0 : dgv c = 0
              · have hT : sbt l 0 = none := by rw [← HS.out, hstep, if_pos hd0]
                have hA : refA s.data.toList l = (0, 4) := by unfold refA; rw [HOK.out, if_pos rfl, hT]; rfl
                have v0 : V = 0 := by rw [HV.out, hA]
                have v4 : E = 4 := by rw [HE.out, hA]
                subst v0 v4
                rw [hd0] at HD
                have c0 : ((0 : Nat) : Int) = 0 := rfl
                rw [c0] at HD
                clear hA hT hstep hd0 c0
                go_wp2_with (go_at_call 22; refine (HD.out _).mono ?_; rintro e w2 ⟨rfl, hb2⟩)
                go_ret2
                exact ⟨rfl, ntrans hb hb2⟩
              · rw [if_neg hd0] at hstep
                have hd0' : ¬ ((dgv c : Int) = 0) := by omega
                by_cases hn : k + 1 < l.length
                · have hn' : (k : Int) + 1 < (s.size : Int) := by have := HL.out; omega
                  rw [head_drop hn] at hstep
                  have hcn : ∀ w2, Below wr.heap.size wr w2 → w2.cell? ⟨g, k + 1, none⟩ = some (.int .u8 (l[k + 1].toNat : Int)) := fun w2 hb2 => (HR.out.below hb2 (k + 1) _ (List.getElem?_eq_getElem hn)).1
                  have HCN := Lib.hid hcn
                  clear hcn
                  generalize l[k + 1] = d at HCN hstep
                  have HDd := Lib.hid (fun w => nDgt d w)
                  have hdd := dgv_le d
                  have hd256 := d.toNat_lt
                  have HST := Lib.hid hstep
                  clear hstep
                  by_cases hgt : dgv c < dgv d
                  · have hgt' : (dgv c : Int) < (dgv d : Int) := by omega
                    generalize hcz : (dgv c : Int) = C at HD hd0' hgt'
                    generalize (dgv d : Int) = D at HDd hgt'
                    have HC := Lib.hid hcz
                    have hC1 : 0 ≤ C := by omega
                    have hC2 : C ≤ 1000 := by omega
                    clear hcz
                    go_wp2_with (first
                      | (go_at_call 22; with_reducible refine (HD.out _).mono ?_; rintro e w2 ⟨rfl, hb2⟩; have hcc := HCN.out w2 hb2)
                      | (go_at_call 22; with_reducible refine (HDd.out _).mono ?_; rintro e w3 ⟨rfl, hb3⟩))
                    go_roundw
                    case rel =>
                      have hh := HST.out
                      rw [if_pos hgt, HC.out] at hh
                      exact ⟨k + 1, z + -C, by omega, by go_num, rfl, by omega, by omega, hh.symm.trans HS.out, (HR.out.below hb2).below hb3, ntrans (ntrans hb hb2) hb3⟩
                    case measure => simp [intOf]; omega
                  · have hgt' : ¬ (dgv c : Int) < (dgv d : Int) := by omega
                    generalize hcz : (dgv c : Int) = C at HD hd0' hgt'
                    generalize (dgv d : Int) = D at HDd hgt'
                    have HC := Lib.hid hcz
                    have hC1 : 0 ≤ C := by omega
                    have hC2 : C ≤ 1000 := by omega
                    clear hcz
                    go_wp2_with (first
                      | (go_at_call 22; with_reducible refine (HD.out _).mono ?_; rintro e w2 ⟨rfl, hb2⟩; have hcc := HCN.out w2 hb2)
                      | (go_at_call 22; with_reducible refine (HDd.out _).mono ?_; rintro e w3 ⟨rfl, hb3⟩))
                    go_roundw
                    case rel =>
                      have hh := HST.out
                      rw [if_neg hgt, HC.out] at hh
                      exact ⟨k + 1, z + C, by omega, by go_num, rfl, by omega, by omega, hh.symm.trans HS.out, (HR.out.below hb2).below hb3, ntrans (ntrans hb hb2) hb3⟩
                    case measure => simp [intOf]; omega
                · have hn' : ¬ ((k : Int) + 1 < (s.size : Int)) := by have := HL.out; omega
                  have hdn : l.drop (k + 1) = [] := List.drop_eq_nil_of_le (by omega)
                  rw [hdn] at hstep
                  have HST := Lib.hid hstep
                  have HDN := Lib.hid hdn
                  clear hstep hdn
                  generalize hcz : (dgv c : Int) = C at HD hd0'
                  have HC := Lib.hid hcz
                  have hC1 : 0 ≤ C := by omega
                  have hC2 : C ≤ 1000 := by omega
                  clear hcz
                  go_wp2_with (go_at_call 22; with_reducible refine (HD.out _).mono ?_; rintro e w2 ⟨rfl, hb2⟩)
                  go_roundw
                  case rel =>
                    have hh := HST.out
                    rw [if_neg (by simp), HC.out] at hh
                    exact ⟨k + 1, z + C, by omega, by go_num, rfl, by omega, by omega, by rw [HDN.out]; exact hh.symm.trans HS.out, HR.out.below hb2, ntrans hb hb2⟩
                  case measure => simp [intOf]; omega
            · obtain rfl : k = l.length := by omega
              have hnl : ¬ l.length < s.size := by rw [HL.out]; omega
              have hT : sbt l 0 = some z := by rw [← HS.out, List.drop_length]; rfl
              have hA : refA s.data.toList l = refT l (some z) := by unfold refA; rw [HOK.out, if_pos rfl, hT]
              have HA := Lib.hid hA
              have HR := Lib.hid hrow
              clear hA hT hrow
              have hS : ∀ w', RowU8 w' g l → (convert 41 9 (.slice (some ⟨g, 0, none⟩) s.size cap)).run Tryd.prog w' = .ok (.string ⟨l.toArray⟩) w' := fun w' h => by
                have := h.str cap
                rw [HL.out] at this
                exact this
              have HSS := Lib.hid hS
              clear hS
              by_cases hz : 1 ≤ z ∧ z ≤ 39999
              · obtain ⟨hza, hzb⟩ := hz
                have H4 := Lib.hid (fun w => nRom z.toNat (by omega) w)
                rw [show (z.toNat : Int) = z by omega] at H4
                have r1 := ba_tl (romL z.toNat)
                have r2 := ba_tl l
                by_cases he : romL z.toNat = l
                · have v0 : V = z := by rw [HV.out, HA.out, refT, if_pos ⟨hza, hzb, he⟩]
                  have v4 : E = 0 := by rw [HE.out, HA.out, refT, if_pos ⟨hza, hzb, he⟩]
                  subst v0 v4
                  have hB : ((⟨(romL V.toNat).toArray⟩ : ByteArray).toList == (⟨l.toArray⟩ : ByteArray).toList) = true := by rw [r1, r2, he]; exact beq_self_eq_true _
                  generalize (⟨(romL V.toNat).toArray⟩ : ByteArray) = R at H4 hB
                  generalize (⟨l.toArray⟩ : ByteArray) = X at HSS hB
                  clear r1 r2 he
                  have hg1 : decide (V < 1) = false := decide_eq_false (by omega)
                  have hg2 : decide ((39999 : Int) < V) = false := decide_eq_false (by omega)
                  go_wp2_with fail
                  go_region_held3 (fun w' => (convert 41 9 (.slice (some ⟨g, 0, none⟩) s.size cap)).run Tryd.prog w' = .ok (.string X) w' ∧ RowU8 w' g l ∧ Below w.heap.size w w')
                    (first | exact ⟨HSS.out _ HR.out, HR.out, hb⟩ | exact ⟨HSS.out _ HR.out, HR.out, hb.drew⟩ | exact ⟨HSS.out _ (HR.out.below hb2), HR.out.below hb2, ntrans hb hb2⟩ | exact ⟨HSS.out _ (RowU8.below (w := wr.drew) HR.out hb2), RowU8.below (w := wr.drew) HR.out hb2, ntrans hb.drew hb2⟩)
                    (first | (go_at_call 17; with_reducible refine (H4.out _).mono ?_; rintro e w2 ⟨rfl, hb2⟩))
                  have hbf := ntrans hb.drew hb2
                  go_wp2_with fail
                  go_ret2
                  exact ⟨rfl, hbf⟩
                · have hno : ¬ (1 ≤ z ∧ z ≤ 39999 ∧ romL z.toNat = l) := fun h => he h.2.2
                  have v0 : V = 0 := by rw [HV.out, HA.out, refT, if_neg hno]
                  have v4 : E = 4 := by rw [HE.out, HA.out, refT, if_neg hno]
                  subst v0 v4
                  have hB : ((⟨(romL z.toNat).toArray⟩ : ByteArray).toList == (⟨l.toArray⟩ : ByteArray).toList) = false := by rw [r1, r2]; simpa using he
                  generalize (⟨(romL z.toNat).toArray⟩ : ByteArray) = R at H4 hB
                  generalize (⟨l.toArray⟩ : ByteArray) = X at HSS hB
                  clear r1 r2 he hno
                  have hg1 : decide (z < 1) = false := decide_eq_false (by omega)
                  have hg2 : decide ((39999 : Int) < z) = false := decide_eq_false (by omega)
                  go_wp2_with fail
                  go_region_held3 (fun w' => (convert 41 9 (.slice (some ⟨g, 0, none⟩) s.size cap)).run Tryd.prog w' = .ok (.string X) w' ∧ RowU8 w' g l ∧ Below w.heap.size w w')
                    (first | exact ⟨HSS.out _ HR.out, HR.out, hb⟩ | exact ⟨HSS.out _ HR.out, HR.out, hb.drew⟩ | exact ⟨HSS.out _ (HR.out.below hb2), HR.out.below hb2, ntrans hb hb2⟩ | exact ⟨HSS.out _ (RowU8.below (w := wr.drew) HR.out hb2), RowU8.below (w := wr.drew) HR.out hb2, ntrans hb.drew hb2⟩)
                    (first | (go_at_call 17; with_reducible refine (H4.out _).mono ?_; rintro e w2 ⟨rfl, hb2⟩))
                  have hbf := ntrans hb.drew hb2
                  go_wp2_with fail
                  go_ret2
                  exact ⟨rfl, hbf⟩
              · have hno : ¬ (1 ≤ z ∧ z ≤ 39999 ∧ romL z.toNat = l) := fun h => hz ⟨h.1, h.2.1⟩
                have v0 : V = 0 := by rw [HV.out, HA.out, refT, if_neg hno]
                have v4 : E = 4 := by rw [HE.out, HA.out, refT, if_neg hno]
                subst v0 v4
                clear hno
                by_cases hz1' : z < 1
                · have hg1 : decide (z < 1) = true := decide_eq_true hz1'
                  go_wp2_with fail
                  go_quiet (fail)
                  have hbf := below_drewN hb nq
                  go_wp2_with fail
                  go_ret2
                  exact ⟨rfl, hbf⟩
                · have hg1 : decide (z < 1) = false := decide_eq_false hz1'
                  have hg2 : decide ((39999 : Int) < z) = true := decide_eq_true (by omega)
                  go_wp2_with fail
                  go_quiet (fail)
                  have hbf := below_drewN hb nq
                  go_wp2_with fail
                  go_ret2
                  exact ⟨rfl, hbf⟩
end Go.Proofs.YtaamjccffkdlhaaDoor
