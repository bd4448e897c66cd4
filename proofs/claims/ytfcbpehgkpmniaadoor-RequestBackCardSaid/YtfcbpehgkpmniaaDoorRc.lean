/- Control lines as bytes: a line split; what is written is split again; one more ! ahead. -/
import Derived.Test.YtfcbpehgkpmniaaDoorRb
namespace Go.Proofs.YtfcbpehgkpmniaaDoor

structure Rq where
  name : List UInt8
  args : List (List UInt8)
  rest : List UInt8
  quiet : Bool
def noRq : Rq := ⟨[], [], [], false⟩
/-- Whether a line can be looked at with these control bytes. -/
def spOk (l : List UInt8) (ct qt : UInt8) : Bool := lineB l && ctB ct && ctB qt && !decide (ct = qt)
/-- Whether it is a control line. -/
def isCt (l : List UInt8) (ct qt : UInt8) : Bool := match l with
  | [] => false
  | c :: _ => decide (c = ct) || decide (c = qt)
def spE (l : List UInt8) (ct qt : UInt8) : Int := if spOk l ct qt then 0 else 1
def spI (l : List UInt8) (ct qt : UInt8) : Bool := spOk l ct qt && isCt l ct qt
def rqOf (l : List UInt8) (qt : UInt8) : Rq := match l with
  | [] => noRq
  | c :: t => ⟨wdL (skL t), wdsL ((wdR (skL t)).drop 1), (wdR (skL t)).drop 1, decide (c = qt)⟩
def spR (l : List UInt8) (ct qt : UInt8) : Rq := if spI l ct qt then rqOf l qt else noRq
theorem rs_head (xs : List (List UInt8)) : rsL xs = [] ∨ ∃ t, rsL xs = 32 :: t := by
  cases xs with
  | nil => exact .inl rfl
  | cons x xs => exact .inr ⟨_, by unfold rsL; rw [List.map_cons, List.flatten_cons, List.cons_append]⟩
theorem wd_app : ∀ {n r : List UInt8}, n.any blB = false → (r = [] ∨ ∃ t, r = 32 :: t) → wdL (n ++ r) = n ∧ wdR (n ++ r) = r
  | [], r, _, hr => by
    rcases hr with rfl | ⟨t, rfl⟩
    · exact ⟨rfl, rfl⟩
    · exact ⟨by unfold wdL; simp [blB], by unfold wdR; simp [blB]⟩
  | c :: n, r, hn, hr => by
    rw [List.any_cons, Bool.or_eq_false_iff] at hn
    obtain ⟨h1, h2⟩ := wd_app hn.2 hr
    unfold wdL at h1
    unfold wdR at h2
    constructor
    · unfold wdL
      rw [List.cons_append, List.takeWhile_cons, hn.1, h1]
      rfl
    · unfold wdR
      rw [List.cons_append, List.dropWhile_cons, hn.1, h2]
      rfl
/-- What is written is split again. -/
theorem wr_back {n : List UInt8} {xs : List (List UInt8)} (h : wrE n xs = 0) : spOk (wrT n xs) 46 39 = true ∧ isCt (wrT n xs) 46 39 = true ∧ (rqOf (wrT n xs) 39).name = n ∧ (rqOf (wrT n xs) 39).args = xs ∧ wdsL (rqOf (wrT n xs) 39).rest = xs ∧ (rqOf (wrT n xs) 39).quiet = false := by
  have ht : wrT n xs = 46 :: n ++ rsL xs := by unfold wrT; rw [if_pos h]
  rw [ht]
  unfold wrE at h
  split at h
  · cases h
  · rename_i h1
    split at h
    · cases h
    · rename_i h2
      split at h
      · cases h
      · rename_i h3
        rw [not_or, not_or] at h1
        obtain ⟨hn0, hnb, hlf⟩ := h1
        have hnb : n.any blB = false := by simpa using hnb
        have hx : wdsL (rsL xs) = xs := by simpa using h2
        have hsk : skL (n ++ rsL xs) = n ++ rsL xs := by
          cases n with
          | nil => exact absurd rfl hn0
          | cons c n =>
            rw [List.any_cons, Bool.or_eq_false_iff] at hnb
            rw [List.cons_append, skL_cons, hnb.1]
            rfl
        obtain ⟨e1, e2⟩ := wd_app hnb (rs_head xs)
        have hr : wdsL ((rsL xs).drop 1) = xs := by
          rcases rs_head xs with e | ⟨t, e⟩
          · rw [e] at hx ⊢
            exact hx
          · rw [e, wdsL_blank] at hx
            rw [e]
            exact hx
        have hl : lineB (46 :: n ++ rsL xs) = true := by
          unfold lineB
          rw [Bool.and_eq_true, decide_eq_true_eq]
          refine ⟨?_, by omega⟩
          rw [List.all_eq_true]
          intro c hc
          cases hd : decide (c.toNat = 10)
          · rfl
          · exact absurd (List.any_eq_true.2 ⟨c, hc, hd⟩) hlf
        refine ⟨by unfold spOk; rw [hl]; rfl, rfl, ?_, ?_, ?_, rfl⟩
        · show wdL (skL (n ++ rsL xs)) = n
          rw [hsk]
          exact e1
        · show wdsL ((wdR (skL (n ++ rsL xs))).drop 1) = xs
          rw [hsk, e2]
          exact hr
        · show wdsL ((wdR (skL (n ++ rsL xs))).drop 1) = xs
          rw [hsk, e2]
          exact hr
/-- Whether it is odd does not matter to a condition otherwise. -/
theorem cd1_not (a b : Bool) (l : List UInt8) : (cd1 a l = none ↔ cd1 b l = none) ∧ ∀ c, cd1 a l = some c → c.not_ = a ∧ cd1 b l = some { c with not_ := b } := by
  unfold cd1
  cases cdK l with
  | none => exact ⟨Iff.rfl, fun c h => by cases h⟩
  | some x => exact ⟨by simp, fun c h => by injection h with h; subst h; exact ⟨rfl, rfl⟩⟩
theorem cdL_bang {c : UInt8} {t : List UInt8} (h : blB c = false) : cdL (33 :: c :: t) = cd1 (!(nots (c :: t)).1) (nots (c :: t)).2 ∧ cdL (c :: t) = cd1 (nots (c :: t)).1 (nots (c :: t)).2 := by
  constructor
  · unfold cdL
    rw [skL_cons, show blB 33 = false from rfl]
    rfl
  · unfold cdL
    rw [skL_cons, h]
    rfl
end Go.Proofs.YtfcbpehgkpmniaaDoor
