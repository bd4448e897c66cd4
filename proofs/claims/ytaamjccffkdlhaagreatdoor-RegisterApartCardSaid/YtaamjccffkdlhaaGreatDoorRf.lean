/- Walk: numbers in letters, the code's. -/
import Derived.Test.YtaamjccffkdlhaaGreatDoorRe
import Derived.Test.YtaamjccffkdlhaaGreatDoorShelf
import Derived.OwnWalk
import Derived.Laws.AppendOwn
import Derived.Sort.Grow
import Derived.Shelf.SlicesE.Reverse
namespace Go.Proofs.YtaamjccffkdlhaaGreatDoor
open Go.RowKit Go.Sort

theorem infoU8 : (Tryz.prog.info? 5).map (fun i => (i.zero, i.size, i.bytes)) = some (some (.int .u8 0), 1, 1) := by kernel_rfl
theorem ltr_big {f n : Nat} (h : n ≤ 9223372036854775807) : (ltr f n).length ≤ 14 := ltr_len f 14 n (by omega)
/-- Whole numbers as bytes. -/
def byL (xs : List Int) : List UInt8 := xs.map fun x => UInt8.ofNat x.toNat
def RLt (f n : Nat) (w : World) (v0 v5 : Value) (wr : World) : Prop :=
  ∃ (m : Nat) (xs : List Int), v0 = .int .i64 m ∧ m ≤ n ∧ (m = n ∨ xs ≠ []) ∧ ltr f n = ltr f m ++ byL xs.reverse ∧ wr.ownsRow w.heap.size 5 1 v5 xs.length (xs.map (Value.int .u8)) ∧ Below w.heap.size w wr
theorem RLt_len {f n m : Nat} {xs : List Int} (hn : n ≤ 9223372036854775807) (h : ltr f n = ltr f m ++ byL xs.reverse) : xs.length ≤ 14 := by
  have := ltr_big (f := f) hn
  rw [h] at this
  simp [byL] at this
  omega
theorem RLt_step {f n m : Nat} {xs : List Int} {x : Int} (hm : m ≠ 0) (hx : x = ((f + (m - 1) % 26 : Nat) : Int)) (h : ltr f n = ltr f m ++ byL xs.reverse) :
    ltr f n = ltr f ((m - 1) / 26) ++ byL (xs ++ [x]).reverse := by
  have e : UInt8.ofNat x.toNat = (f + (m - 1) % 26).toUInt8 := by rw [hx]; rfl
  rw [h, ltr_pos f hm, List.reverse_append, List.append_assoc]
  unfold byL
  rw [List.map_append, List.reverse_singleton, List.map_singleton, e]
theorem ints_one (k : IntKind) (x : Int) : ∀ u ∈ [Value.int k x], u.oneCell' = true := by intro u hu; rw [List.mem_singleton] at hu; subst hu; rfl
theorem new_one (w : World) (t : TypeId) (u : Value) : ∀ (j : Nat) (v : Value), [u][j]? = some v → (w.alloc (.cells #[u] t)).cell? ((⟨w.heap.size, 0, none⟩ : Addr).add j) = some v := by
  intro j v hj
  match j, hj with
  | 0, hj => simp at hj; subst hj; exact Blk.cell (Blk.new w t #[u]) 0
  | j + 1, hj => simp at hj
theorem below_grown {B : Nat} {w w1 w2 : World} {row : Option Nat} (hb : Below B w w1) (hg : w1.grownBy w2 row) (h1 : B ≤ w1.heap.size) (hr : ∀ g, row = some g → B ≤ g) : Below B w w2 := hb.grown hg h1 hr
/-- letters. -/
theorem cLet (f n : Nat) (hf : f + 26 ≤ 256) (hn0 : n ≠ 0) (hn : n ≤ 9223372036854775807) (w : World) :
    Calls Tryz.prog 66 #[.int .i64 n, .int .u8 f] w fun e w' => e = .returned (.string ⟨(ltr f n).toArray⟩) ∧ Below w.heap.size w w' := by
  obtain ⟨i0, hi, hz0, hz1, hz2⟩ := info_parts infoU8
  go_enter Tryz.func66, Tryz.ntmps66
  go_wp2_with fail
  go_loopw [0, 5] (fun v0 v5 wr => RLt f n w v0 v5 wr) (fun v0 _ _ => (intOf v0).toNat)
  case atStart => exact ⟨n, [], rfl, Nat.le_refl _, .inl rfl, by simp [byL], ⟨by simp, .inl ⟨rfl, rfl⟩⟩, Below.refl _ _⟩
  case round =>
    obtain ⟨m, xs, rfl, hmn, hne, hd, hown, hb⟩ := hrel
    have hxl := RLt_len hn hd
    have HD := Lib.hid hd
    have HN := Lib.hid hne
    clear hd hne
    by_cases h0 : 0 < m
    · have hsz := hb.size
      go_wp2_with (at_builtin; refine wpList_append_own _ rfl _ _ 85 rfl w.heap.size 5 i0 (.int .u8 0) 1 1 Tryz.underlying85 hi hz0 hz1 hz2 rfl (by decide) _ _ _ rfl (hown.alloc _) ⟨wr.heap.size, 0, none⟩ 1 1 [.int .u8 ((f : Int) + ((m : Int) - 1) % 26)] rfl rfl ?c1 ?c2 ?c3 ?c4 ?c5 ?_)
      case c1 => exact new_one wr 5 _
      case c2 => exact ints_one .u8 _
      case c3 => unfold maxLen; omega
      case c4 => omega
      case c5 => simp; omega
      intro v' w1 hown1 hgrow hnil
      have hb1 : Below w.heap.size w w1 := (hb.alloc hsz _).grown hgrow (by simp; omega) (fun g hg => by
        rcases hown.2 with ⟨rfl, _⟩ | ⟨g', c', cur, rfl, hbase, _⟩
        · simp [Value.ownBlock] at hg
        · have : g' = g := by simpa [Value.ownBlock] using hg
          omega)
      have HO : Hid (w1.ownsRow w.heap.size 5 1 v' (xs ++ [(f : Int) + ((m : Int) - 1) % 26]).length ((xs ++ [(f : Int) + ((m : Int) - 1) % 26]).map (Value.int .u8))) := Lib.hid (by simpa using hown1)
      clear hown1 hgrow hown hb hnil
      go_wp2_with fail
      go_roundw
      case rel =>
        exact ⟨(m - 1) / 26, xs ++ [(f : Int) + ((m : Int) - 1) % 26], by rw [Int.natCast_ediv, Int.natCast_sub (by omega)]; rfl, by omega, .inr (by simp), RLt_step (by omega) (by omega) HD.out, HO.out, hb1⟩
      case measure =>
        show (((m : Int) - 1) / 26).toNat < (m : Int).toNat
        omega
    · obtain rfl : m = 0 := by omega
      rcases hown.2 with ⟨rfl, hx0⟩ | ⟨g, cap, cur, rfl, hbase, hblk, hn1, hn2, hn3, hn4⟩
      · exfalso
        rcases HN.out with e | e
        · omega
        · exact e (List.length_eq_zero_iff.1 hx0)
      · have hH : Holds (Value.int .u8) wr g 0 xs.toArray := by
          intro j hj
          have hj' : j < xs.length := by simpa using hj
          refine ⟨?_, by simp [World.frozen?, hblk]⟩
          have h1 : (cur.toList.take (xs.length * 1))[j]? = (xs.map (Value.int .u8))[j]? := by rw [hn4]
          rw [List.getElem?_take_of_lt (by omega)] at h1
          rw [Nat.zero_add, cell_of_row wr g j cur 5 (0, 0) hblk]
          rw [Array.getElem?_toList] at h1
          rw [h1]
          simp [hj']
        have HC := Lib.hid (fun c => AnyE.slices_Reverse Tryz.revU8 (Value.int .u8) (fun _ => rfl) g 0 c xs wr hH (by omega))
        have HG : Hid (∀ (n : Nat) (d : Array Int), wr.grownBy (putRow (Value.int .u8) (Sort.ahead wr n) g 0 d) (some g)) := Lib.hid (fun n d => ⟨rfl, rfl, rfl, by simp [putRow, mapBlock, Sort.ahead], fun k hk hne => by
          have : g ≠ k := fun e => hne (by rw [e])
          simp [putRow, mapBlock, Sort.ahead, Array.getElem?_modify, this]⟩)
        have HK : Hid (∀ (w1 : World) (nn : Nat), w1 = putRow (Value.int .u8) (Sort.ahead wr nn) g 0 xs.reverse.toArray → ∀ c, (convert 85 9 (.slice (some ⟨g, 0, none⟩) xs.length c)).run Tryz.prog w1 = .ok (.string (strOfNums xs.reverse)) w1) := Lib.hid (fun w1 nn hw c => by
          have hH1 : Holds (Value.int .u8) w1 g 0 xs.reverse.toArray := by
            rw [hw]
            exact holds_putRow (Value.int .u8) _ g 0 xs.toArray xs.reverse.toArray (holds_ahead (Value.int .u8) wr nn g 0 xs.toArray hH) (by simp)
          refine run_convert_bytes_arg w1 85 5 Tryz.underlying85 Tryz.underlying5 g 0 xs.length c xs.reverse (by simp) (fun i hi => ?_) 9 Tryz.underlying9
          have := (hH1 i (by simpa using hi)).1
          rw [this]
          simp [List.getD, hi])
        have HE : Hid ((⟨(ltr f n).toArray⟩ : ByteArray) = strOfNums xs.reverse) := Lib.hid (by rw [HD.out, ltr_0, List.nil_append]; rfl)
        clear hH hblk hn4 hn3
        go_wp2_with (go_at_call 75; refine (HC.out _).mono ?_; rintro e w1 ⟨rfl, nn, hw1⟩; have kc := HK.out w1 nn hw1; have HW := Lib.hid hw1; clear hw1)
        rw [HE.out]
        go_ret
        exact ⟨rfl, by rw [HW.out]; exact hb.grown (HG.out nn _) hb.size (fun j hj => by injection hj with hj; omega)⟩
end Go.Proofs.YtaamjccffkdlhaaGreatDoor
