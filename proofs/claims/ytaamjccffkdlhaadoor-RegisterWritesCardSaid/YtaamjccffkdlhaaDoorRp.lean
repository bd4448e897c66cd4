/- Walks: what a digit is; the document's Write. -/
import Derived.Test.YtaamjccffkdlhaaDoorRo
import Derived.Test.YtaamjccffkdlhaaDoorRc
import Derived.Test.YtaamjccffkdlhaaDoorRk
namespace Go.Proofs.YtaamjccffkdlhaaDoor
open Go.RowKit

def dsyA : ByteArray := ⟨#[105, 118, 120, 108, 99, 100, 109]⟩
def dsy (k : Nat) : Nat := ([105, 118, 120, 108, 99, 100, 109] : List Nat).getD k 0
def dva (k : Nat) : Nat := ([1, 5, 10, 50, 100, 500, 1000] : List Nat).getD k 0
abbrev dvaA : Array Value := #[.int .i64 1, .int .i64 5, .int .i64 10, .int .i64 50, .int .i64 100, .int .i64 500, .int .i64 1000]
theorem dsy_ix : ∀ (k : Nat), k < 7 → ∀ (w : World), (Instr.index 9 (.string ⟨#[105, 118, 120, 108, 99, 100, 109]⟩) (.int .i64 k)).run Tryd.prog w = .ok (.int .u8 (dsy k)) w
  | 0, _ | 1, _ | 2, _ | 3, _ | 4, _ | 5, _ | 6, _ => fun _ => by kernel_rfl
  | k + 7, h => absurd h (by omega)
theorem dva_at : ∀ (k : Nat), k < 7 → dvaA[k]? = some (.int .i64 (dva k))
  | 0, _ | 1, _ | 2, _ | 3, _ | 4, _ | 5, _ | 6, _ => rfl
  | k + 7, h => absurd h (by omega)
theorem dgv_hit : ∀ (c : Fin 256) (k : Fin 7), dsy k.val = c.val → dgv c.val.toUInt8 = dva k.val := by decide +kernel
theorem dgv_miss : ∀ c : Fin 256, (∀ k : Fin 7, dsy k.val ≠ c.val) → dgv c.val.toUInt8 = 0 := by decide +kernel
theorem dgv_of (c : UInt8) {k : Nat} (hk : k < 7) (h : dsy k = c.toNat) : dgv c = dva k := by
  have := dgv_hit ⟨c.toNat, c.toNat_lt⟩ ⟨k, hk⟩ h
  simpa using this
theorem dgv_no (c : UInt8) (h : ∀ k, k < 7 → dsy k ≠ c.toNat) : dgv c = 0 := by
  have := dgv_miss ⟨c.toNat, c.toNat_lt⟩ (fun k => h k.val k.isLt)
  simpa using this
set_option maxRecDepth 100000 in
/-- The document's digit. -/
theorem nDgt (c : UInt8) (w : World) : Calls Tryd.prog 22 #[.int .u8 (c.toNat : Int)] w fun e w' => e = .returned (.int .i64 (dgv c : Nat)) ∧ Below w.heap.size w w' := by
  obtain ⟨d, hd⟩ : ∃ d, d = dgv c := ⟨_, rfl⟩
  rw [← hd]
  have HX := Lib.hid hd
  clear hd
  go_enter Tryd.func22, Tryd.ntmps22
  go_wp2_with fail
  have hV := Blk.new w 3 dvaA
  have hb : Below w.heap.size w (w.alloc (.cells dvaA 3)) := (Below.refl _ _).alloc (Nat.le_refl _) _
  generalize w.alloc (.cells dvaA 3) = wo at hV hb ⊢
  have HV := Lib.hid (fun k (hk : k < 7) => (hV.cell k).trans (dva_at k hk))
  clear hV
  go_loop [5] (fun v5 => ∃ k : Nat, k ≤ 7 ∧ v5 = .int .i64 k ∧ ∀ j, j < k → dsy j ≠ c.toNat) (fun v5 => 7 - (intOf v5).toNat)
  case atStart => exact ⟨0, by omega, rfl, fun j h => by omega⟩
  case round =>
    obtain ⟨k, hk, rfl, hno⟩ := hrel
    have HN := Lib.hid hno
    clear hno
    by_cases hk7 : k < 7
    · have hix := dsy_ix k hk7
      have c0 := HV.out k hk7
      by_cases he : dsy k = c.toNat
      · have hB : ((dsy k : Int) == (c.toNat : Int)) = true := by rw [he]; exact beq_self_eq_true _
        have hd : d = dva k := by rw [HX.out]; exact dgv_of c hk7 he
        subst hd
        clear he
        go_wp2_with fail
        go_ret
        exact ⟨rfl, hb⟩
      · have hB : ((dsy k : Int) == (c.toNat : Int)) = false := by
          rw [beq_eq_false_iff_ne]
          intro e
          exact he (by omega)
        have HE := Lib.hid he
        clear he
        go_wp2_with fail
        go_round
        case rel => exact ⟨k + 1, by omega, by go_num, fun j hj => by
          by_cases e : j = k
          · subst e; exact HE.out
          · exact HN.out j (by omega)⟩
        case measure => simp [intOf]; omega
    · obtain rfl : k = 7 := by omega
      have hd : d = 0 := by rw [HX.out]; exact dgv_no c HN.out
      subst hd
      go_wp2_with fail
      go_ret
      exact ⟨rfl, hb⟩
theorem upL_ltr (n : Nat) : upL (ltr 97 n) = ltr 65 n := by
  induction n using Nat.strongRecOn with
  | ind n ih =>
    by_cases h : n = 0
    · subst h; rw [ltr_0, ltr_0]; rfl
    · rw [ltr_pos 97 h, ltr_pos 65 h]
      have e : ∀ r : Fin 26, Lib.upperB (97 + r.val).toUInt8 = (65 + r.val).toUInt8 := by decide
      have := ih ((n - 1) / 26) (by omega)
      unfold upL at this ⊢
      rw [List.map_append, this]
      congr 1
      exact congrArg (fun x => [x]) (e ⟨(n - 1) % 26, Nat.mod_lt _ (by omega)⟩)
theorem body_0 (F : ByteArray) (h : F.size = 1) : bodyL 0 F = [48] := by
  unfold bodyL
  rw [if_pos rfl, h, padL_one, digL, dif_pos (by omega)]; rfl
set_option maxRecDepth 100000 in
theorem nW0i (w : World) :
    Calls Tryd.prog 8 #[.int .i64 0, .string ⟨#[105]⟩] w fun e w' => e = .returned (.tuple #[.string ⟨(bodyL 0 ⟨#[105]⟩).toArray⟩, .int .i64 0]) ∧ Below w.heap.size w w' := by
  rw [body_0 ⟨#[105]⟩ rfl]
  have H1 := Lib.hid (fun w => nForm ⟨#[105]⟩ (by decide) w)
  rw [show fmtB ⟨#[105]⟩ = true by decide] at H1
  have H2 := Lib.hid (fun w => nFit 0 w)
  rw [show rngB 0 = true by decide] at H2
  have H3 : Hid (∀ w, Calls Tryd.prog 16 #[.int .i64 0] w fun e w' => e = .returned (.string ⟨(digL 0).toArray⟩) ∧ Below w.heap.size w w') := Lib.hid (fun w => nDig 0 (by omega) w)
  go_enter Tryd.func8, Tryd.ntmps8
  go_wp2_with (first
    | (go_at_call 14; refine (H1.out _).mono ?_; rintro e w1 ⟨rfl, rfl⟩)
    | (go_at_call 15; refine (H2.out _).mono ?_; rintro e w1 ⟨rfl, rfl⟩)
    | (go_at_call 16; with_reducible refine (H3.out _).mono ?_; rintro e w1 ⟨rfl, hb1⟩))
  go_ret2
  exact ⟨rfl, hb1⟩
set_option maxRecDepth 100000 in
theorem nW0I (w : World) :
    Calls Tryd.prog 8 #[.int .i64 0, .string ⟨#[73]⟩] w fun e w' => e = .returned (.tuple #[.string ⟨(bodyL 0 ⟨#[73]⟩).toArray⟩, .int .i64 0]) ∧ Below w.heap.size w w' := by
  rw [body_0 ⟨#[73]⟩ rfl]
  have H1 := Lib.hid (fun w => nForm ⟨#[73]⟩ (by decide) w)
  rw [show fmtB ⟨#[73]⟩ = true by decide] at H1
  have H2 := Lib.hid (fun w => nFit 0 w)
  rw [show rngB 0 = true by decide] at H2
  have H3 : Hid (∀ w, Calls Tryd.prog 16 #[.int .i64 0] w fun e w' => e = .returned (.string ⟨(digL 0).toArray⟩) ∧ Below w.heap.size w w') := Lib.hid (fun w => nDig 0 (by omega) w)
  have H5 : Hid (∀ w, Calls Tryd.prog 19 #[.string ⟨#[48]⟩] w fun e w' => e = .returned (.string ⟨#[48]⟩) ∧ Below w.heap.size w w') := Lib.hid (fun w => nGreat ⟨#[48]⟩ (by decide) w)
  go_enter Tryd.func8, Tryd.ntmps8
  go_wp2_with (first
    | (go_at_call 14; refine (H1.out _).mono ?_; rintro e w1 ⟨rfl, rfl⟩)
    | (go_at_call 15; refine (H2.out _).mono ?_; rintro e w1 ⟨rfl, rfl⟩)
    | (go_at_call 16; with_reducible refine (H3.out _).mono ?_; rintro e w1 ⟨rfl, hb1⟩)
    | (go_at_call 19; with_reducible refine (H5.out _).mono ?_; rintro e w2 ⟨rfl, hb2⟩))
  go_ret2
  exact ⟨rfl, ntrans hb1 hb2⟩
set_option maxRecDepth 100000 in
theorem nW0a (w : World) :
    Calls Tryd.prog 8 #[.int .i64 0, .string ⟨#[97]⟩] w fun e w' => e = .returned (.tuple #[.string ⟨(bodyL 0 ⟨#[97]⟩).toArray⟩, .int .i64 0]) ∧ Below w.heap.size w w' := by
  rw [body_0 ⟨#[97]⟩ rfl]
  have H1 := Lib.hid (fun w => nForm ⟨#[97]⟩ (by decide) w)
  rw [show fmtB ⟨#[97]⟩ = true by decide] at H1
  have H2 := Lib.hid (fun w => nFit 0 w)
  rw [show rngB 0 = true by decide] at H2
  have H3 : Hid (∀ w, Calls Tryd.prog 16 #[.int .i64 0] w fun e w' => e = .returned (.string ⟨(digL 0).toArray⟩) ∧ Below w.heap.size w w') := Lib.hid (fun w => nDig 0 (by omega) w)
  go_enter Tryd.func8, Tryd.ntmps8
  go_wp2_with (first
    | (go_at_call 14; refine (H1.out _).mono ?_; rintro e w1 ⟨rfl, rfl⟩)
    | (go_at_call 15; refine (H2.out _).mono ?_; rintro e w1 ⟨rfl, rfl⟩)
    | (go_at_call 16; with_reducible refine (H3.out _).mono ?_; rintro e w1 ⟨rfl, hb1⟩))
  go_ret2
  exact ⟨rfl, hb1⟩
set_option maxRecDepth 100000 in
theorem nW0A (w : World) :
    Calls Tryd.prog 8 #[.int .i64 0, .string ⟨#[65]⟩] w fun e w' => e = .returned (.tuple #[.string ⟨(bodyL 0 ⟨#[65]⟩).toArray⟩, .int .i64 0]) ∧ Below w.heap.size w w' := by
  rw [body_0 ⟨#[65]⟩ rfl]
  have H1 := Lib.hid (fun w => nForm ⟨#[65]⟩ (by decide) w)
  rw [show fmtB ⟨#[65]⟩ = true by decide] at H1
  have H2 := Lib.hid (fun w => nFit 0 w)
  rw [show rngB 0 = true by decide] at H2
  have H3 : Hid (∀ w, Calls Tryd.prog 16 #[.int .i64 0] w fun e w' => e = .returned (.string ⟨(digL 0).toArray⟩) ∧ Below w.heap.size w w') := Lib.hid (fun w => nDig 0 (by omega) w)
  have H5 : Hid (∀ w, Calls Tryd.prog 19 #[.string ⟨#[48]⟩] w fun e w' => e = .returned (.string ⟨#[48]⟩) ∧ Below w.heap.size w w') := Lib.hid (fun w => nGreat ⟨#[48]⟩ (by decide) w)
  go_enter Tryd.func8, Tryd.ntmps8
  go_wp2_with (first
    | (go_at_call 14; refine (H1.out _).mono ?_; rintro e w1 ⟨rfl, rfl⟩)
    | (go_at_call 15; refine (H2.out _).mono ?_; rintro e w1 ⟨rfl, rfl⟩)
    | (go_at_call 16; with_reducible refine (H3.out _).mono ?_; rintro e w1 ⟨rfl, hb1⟩)
    | (go_at_call 19; with_reducible refine (H5.out _).mono ?_; rintro e w2 ⟨rfl, hb2⟩))
  go_ret2
  exact ⟨rfl, ntrans hb1 hb2⟩
set_option maxRecDepth 100000 in
theorem nWi (n : Nat) (hn : n ≤ 1000000000) (h0 : 1 ≤ n) (h9 : n ≤ 39999) (w : World) :
    Calls Tryd.prog 8 #[.int .i64 n, .string ⟨#[105]⟩] w fun e w' => e = .returned (.tuple #[.string ⟨(bodyL n ⟨#[105]⟩).toArray⟩, .int .i64 0]) ∧ Below w.heap.size w w' := by
  have hb : bodyL n ⟨#[105]⟩ = romL n := by exact (show bodyL n ⟨#[105]⟩ = romX n by unfold bodyL; rw [if_neg (by omega)]; rfl).trans (by unfold romX; rw [if_pos (by omega)])
  rw [hb]; clear hb
  have H1 := Lib.hid (fun w => nForm ⟨#[105]⟩ (by decide) w)
  rw [show fmtB ⟨#[105]⟩ = true by decide] at H1
  have H2 := Lib.hid (fun w => nFit (n : Int) w)
  rw [show rngB (n : Int) = true by rw [rngB_iff]; omega] at H2
  have H3 := Lib.hid (fun w => nDig n (by omega) w)
  have H4 := Lib.hid (fun w => nRom n h9 w)
  generalize (⟨(romL n).toArray⟩ : ByteArray) = R at H4 ⊢
  generalize (⟨(digL n).toArray⟩ : ByteArray) = S at H3
  go_enter Tryd.func8, Tryd.ntmps8
  go_wp2_with (first
    | (go_at_call 14; refine (H1.out _).mono ?_; rintro e w1 ⟨rfl, rfl⟩)
    | (go_at_call 15; refine (H2.out _).mono ?_; rintro e w1 ⟨rfl, rfl⟩)
    | (go_at_call 16; with_reducible refine (H3.out _).mono ?_; rintro e w1 ⟨rfl, hb1⟩)
    | (go_at_call 17; with_reducible refine (H4.out _).mono ?_; rintro e w2 ⟨rfl, hb2⟩))
  go_ret2
  exact ⟨rfl, ntrans hb1 hb2⟩
set_option maxRecDepth 100000 in
theorem nWix (n : Nat) (hn : n ≤ 1000000000) (h9 : ¬ n ≤ 39999) (w : World) :
    Calls Tryd.prog 8 #[.int .i64 n, .string ⟨#[105]⟩] w fun e w' => e = .returned (.tuple #[.string ⟨(bodyL n ⟨#[105]⟩).toArray⟩, .int .i64 0]) ∧ Below w.heap.size w w' := by
  have hb : bodyL n ⟨#[105]⟩ = digL n := by exact (show bodyL n ⟨#[105]⟩ = romX n by unfold bodyL; rw [if_neg (by omega)]; rfl).trans (by unfold romX; rw [if_neg (by omega)])
  rw [hb]; clear hb
  have H1 := Lib.hid (fun w => nForm ⟨#[105]⟩ (by decide) w)
  rw [show fmtB ⟨#[105]⟩ = true by decide] at H1
  have H2 := Lib.hid (fun w => nFit (n : Int) w)
  rw [show rngB (n : Int) = true by rw [rngB_iff]; omega] at H2
  have H3 := Lib.hid (fun w => nDig n (by omega) w)
  generalize (⟨(digL n).toArray⟩ : ByteArray) = S at H3 ⊢
  go_enter Tryd.func8, Tryd.ntmps8
  go_wp2_with (first
    | (go_at_call 14; refine (H1.out _).mono ?_; rintro e w1 ⟨rfl, rfl⟩)
    | (go_at_call 15; refine (H2.out _).mono ?_; rintro e w1 ⟨rfl, rfl⟩)
    | (go_at_call 16; with_reducible refine (H3.out _).mono ?_; rintro e w1 ⟨rfl, hb1⟩))
  go_ret2
  exact ⟨rfl, hb1⟩
set_option maxRecDepth 100000 in
theorem nWI (n : Nat) (hn : n ≤ 1000000000) (h0 : 1 ≤ n) (h9 : n ≤ 39999) (w : World) :
    Calls Tryd.prog 8 #[.int .i64 n, .string ⟨#[73]⟩] w fun e w' => e = .returned (.tuple #[.string ⟨(bodyL n ⟨#[73]⟩).toArray⟩, .int .i64 0]) ∧ Below w.heap.size w w' := by
  have hb : bodyL n ⟨#[73]⟩ = upL (romL n) := by exact (show bodyL n ⟨#[73]⟩ = upL (romX n) by unfold bodyL; rw [if_neg (by omega)]; rfl).trans (by unfold romX; rw [if_pos (by omega)])
  rw [hb]; clear hb
  have H1 := Lib.hid (fun w => nForm ⟨#[73]⟩ (by decide) w)
  rw [show fmtB ⟨#[73]⟩ = true by decide] at H1
  have H2 := Lib.hid (fun w => nFit (n : Int) w)
  rw [show rngB (n : Int) = true by rw [rngB_iff]; omega] at H2
  have H3 := Lib.hid (fun w => nDig n (by omega) w)
  have H4 := Lib.hid (fun w => nRom n h9 w)
  have H5 : Hid (∀ w, Calls Tryd.prog 19 #[.string ⟨(romL n).toArray⟩] w fun e w' => e = .returned (.string ⟨(upL (romL n)).toArray⟩) ∧ Below w.heap.size w w') := Lib.hid (fun w => by
    have := nGreat ⟨(romL n).toArray⟩ (by rw [mk_size]; have := romL_len h9; omega) w
    simpa using this)
  generalize (⟨(upL (romL n)).toArray⟩ : ByteArray) = T at H5 ⊢
  generalize (⟨(romL n).toArray⟩ : ByteArray) = R at H4 H5
  generalize (⟨(digL n).toArray⟩ : ByteArray) = S at H3
  go_enter Tryd.func8, Tryd.ntmps8
  go_wp2_with (first
    | (go_at_call 14; refine (H1.out _).mono ?_; rintro e w1 ⟨rfl, rfl⟩)
    | (go_at_call 15; refine (H2.out _).mono ?_; rintro e w1 ⟨rfl, rfl⟩)
    | (go_at_call 16; with_reducible refine (H3.out _).mono ?_; rintro e w1 ⟨rfl, hb1⟩)
    | (go_at_call 17; with_reducible refine (H4.out _).mono ?_; rintro e w2 ⟨rfl, hb2⟩)
    | (go_at_call 19; with_reducible refine (H5.out _).mono ?_; rintro e w3 ⟨rfl, hb3⟩))
  go_ret2
  exact ⟨rfl, ntrans (ntrans hb1 hb2) hb3⟩
set_option maxRecDepth 100000 in
theorem nWIx (n : Nat) (hn : n ≤ 1000000000) (h9 : ¬ n ≤ 39999) (w : World) :
    Calls Tryd.prog 8 #[.int .i64 n, .string ⟨#[73]⟩] w fun e w' => e = .returned (.tuple #[.string ⟨(bodyL n ⟨#[73]⟩).toArray⟩, .int .i64 0]) ∧ Below w.heap.size w w' := by
  have hb : bodyL n ⟨#[73]⟩ = digL n := by exact (show bodyL n ⟨#[73]⟩ = upL (romX n) by unfold bodyL; rw [if_neg (by omega)]; rfl).trans (by unfold romX; rw [if_neg (by omega), (up_dig n).1])
  rw [hb]; clear hb
  have H1 := Lib.hid (fun w => nForm ⟨#[73]⟩ (by decide) w)
  rw [show fmtB ⟨#[73]⟩ = true by decide] at H1
  have H2 := Lib.hid (fun w => nFit (n : Int) w)
  rw [show rngB (n : Int) = true by rw [rngB_iff]; omega] at H2
  have H3 := Lib.hid (fun w => nDig n (by omega) w)
  have H5 : Hid (∀ w, Calls Tryd.prog 19 #[.string ⟨(digL n).toArray⟩] w fun e w' => e = .returned (.string ⟨(digL n).toArray⟩) ∧ Below w.heap.size w w') := Lib.hid (fun w => by
    have := nGreat ⟨(digL n).toArray⟩ (by rw [mk_size]; have := digL_9 hn; omega) w
    rw [show (⟨(digL n).toArray⟩ : ByteArray).data.toList = digL n from rfl, (up_dig n).1] at this
    exact this)
  generalize (⟨(digL n).toArray⟩ : ByteArray) = S at H3 H5 ⊢
  go_enter Tryd.func8, Tryd.ntmps8
  go_wp2_with (first
    | (go_at_call 14; refine (H1.out _).mono ?_; rintro e w1 ⟨rfl, rfl⟩)
    | (go_at_call 15; refine (H2.out _).mono ?_; rintro e w1 ⟨rfl, rfl⟩)
    | (go_at_call 16; with_reducible refine (H3.out _).mono ?_; rintro e w1 ⟨rfl, hb1⟩)
    | (go_at_call 19; with_reducible refine (H5.out _).mono ?_; rintro e w2 ⟨rfl, hb2⟩))
  go_ret2
  exact ⟨rfl, ntrans hb1 hb2⟩
set_option maxRecDepth 100000 in
theorem nWa (n : Nat) (hn : n ≤ 1000000000) (h0 : 1 ≤ n) (w : World) :
    Calls Tryd.prog 8 #[.int .i64 n, .string ⟨#[97]⟩] w fun e w' => e = .returned (.tuple #[.string ⟨(bodyL n ⟨#[97]⟩).toArray⟩, .int .i64 0]) ∧ Below w.heap.size w w' := by
  have hb : bodyL n ⟨#[97]⟩ = ltr 97 n := by unfold bodyL; rw [if_neg (by omega)]; rfl
  rw [hb]; clear hb
  have H1 := Lib.hid (fun w => nForm ⟨#[97]⟩ (by decide) w)
  rw [show fmtB ⟨#[97]⟩ = true by decide] at H1
  have H2 := Lib.hid (fun w => nFit (n : Int) w)
  rw [show rngB (n : Int) = true by rw [rngB_iff]; omega] at H2
  have H3 := Lib.hid (fun w => nDig n (by omega) w)
  have H4 := Lib.hid (fun w => nLet n (by omega) w)
  generalize (⟨(ltr 97 n).toArray⟩ : ByteArray) = R at H4 ⊢
  generalize (⟨(digL n).toArray⟩ : ByteArray) = S at H3
  go_enter Tryd.func8, Tryd.ntmps8
  go_wp2_with (first
    | (go_at_call 14; refine (H1.out _).mono ?_; rintro e w1 ⟨rfl, rfl⟩)
    | (go_at_call 15; refine (H2.out _).mono ?_; rintro e w1 ⟨rfl, rfl⟩)
    | (go_at_call 16; with_reducible refine (H3.out _).mono ?_; rintro e w1 ⟨rfl, hb1⟩)
    | (go_at_call 18; with_reducible refine (H4.out _).mono ?_; rintro e w2 ⟨rfl, hb2⟩))
  go_ret2
  exact ⟨rfl, ntrans hb1 hb2⟩
set_option maxRecDepth 100000 in
theorem nWA (n : Nat) (hn : n ≤ 1000000000) (h0 : 1 ≤ n) (w : World) :
    Calls Tryd.prog 8 #[.int .i64 n, .string ⟨#[65]⟩] w fun e w' => e = .returned (.tuple #[.string ⟨(bodyL n ⟨#[65]⟩).toArray⟩, .int .i64 0]) ∧ Below w.heap.size w w' := by
  have hb : bodyL n ⟨#[65]⟩ = ltr 65 n := by unfold bodyL; rw [if_neg (by omega)]; rfl
  rw [hb]; clear hb
  have H1 := Lib.hid (fun w => nForm ⟨#[65]⟩ (by decide) w)
  rw [show fmtB ⟨#[65]⟩ = true by decide] at H1
  have H2 := Lib.hid (fun w => nFit (n : Int) w)
  rw [show rngB (n : Int) = true by rw [rngB_iff]; omega] at H2
  have H3 := Lib.hid (fun w => nDig n (by omega) w)
  have H4 := Lib.hid (fun w => nLet n (by omega) w)
  have H5 : Hid (∀ w, Calls Tryd.prog 19 #[.string ⟨(ltr 97 n).toArray⟩] w fun e w' => e = .returned (.string ⟨(ltr 65 n).toArray⟩) ∧ Below w.heap.size w w') := Lib.hid (fun w => by
    have := nGreat ⟨(ltr 97 n).toArray⟩ (by rw [mk_size]; have := ltr_small (f := 97) hn; omega) w
    rw [show (⟨(ltr 97 n).toArray⟩ : ByteArray).data.toList = ltr 97 n from rfl, upL_ltr] at this
    exact this)
  generalize (⟨(ltr 65 n).toArray⟩ : ByteArray) = T at H5 ⊢
  generalize (⟨(ltr 97 n).toArray⟩ : ByteArray) = R at H4 H5
  generalize (⟨(digL n).toArray⟩ : ByteArray) = S at H3
  go_enter Tryd.func8, Tryd.ntmps8
  go_wp2_with (first
    | (go_at_call 14; refine (H1.out _).mono ?_; rintro e w1 ⟨rfl, rfl⟩)
    | (go_at_call 15; refine (H2.out _).mono ?_; rintro e w1 ⟨rfl, rfl⟩)
    | (go_at_call 16; with_reducible refine (H3.out _).mono ?_; rintro e w1 ⟨rfl, hb1⟩)
    | (go_at_call 18; with_reducible refine (H4.out _).mono ?_; rintro e w2 ⟨rfl, hb2⟩)
    | (go_at_call 19; with_reducible refine (H5.out _).mono ?_; rintro e w3 ⟨rfl, hb3⟩))
  go_ret2
  exact ⟨rfl, ntrans (ntrans hb1 hb2) hb3⟩
end Go.Proofs.YtaamjccffkdlhaaDoor
