/-
  Lists of signatures as bytes, in plain mathematics: whether one may be; its bytes; what is read of any bytes; there and back. No condition.
-/
import Derived.Test.YtofadlenblobnaaYSig
import Derived.Test.YtofadlenblobnaaCCount
import Derived.Test.YtofadlenblobnaaLRef
namespace Go.Proofs.Ytofadlenblobnaa.Exp
open Go.RowKit Typ Codec
open Cod (endB)
set_option maxRecDepth 100000
def valT (t : Int) : Bool := t == 1 || t == 2
def resT (t : Int) : Bool := t == 0 || valT t
def typedP (s : Sp) : Bool := !decide (4 < s.p.length) && (s.p.all valT && resT s.r)
def risP (a : List UInt8) (s : List UInt8) : Bool := Lex.nameOk s && Op.bytesLess a s
def chainP : List UInt8 → List Sp → Bool
  | _, [] => true
  | a, s :: l => risP a s.s && typedP s && chainP s.s l
def rightL (l : List Sp) : Bool := !decide (32 < l.length) && chainP [] l
def encP (p : List Int) : List UInt8 := p.flatMap encSmall
def encG (s : Sp) : List UInt8 := encText s.s ++ (encSmall s.p.length ++ (encP s.p ++ encSmall s.r))
def encB (l : List Sp) : List UInt8 := l.flatMap encG
def encL (l : List Sp) : List UInt8 := encSmall l.length ++ encB l
/-! ### What is read -/
def rdP : Nat → St → List Int × St
  | 0, s => ([], s)
  | n + 1, s => ((count 2 s : Int) :: (rdP n (countS 2 s)).1, (rdP n (countS 2 s)).2)
def rdG (s : St) : Sp × St :=
  (⟨text 16 s, (rdP (count 4 (textS 16 s)) (countS 4 (textS 16 s))).1, count 2 (rdP (count 4 (textS 16 s)) (countS 4 (textS 16 s))).2⟩, countS 2 (rdP (count 4 (textS 16 s)) (countS 4 (textS 16 s))).2)
def rdN : Nat → St → List Sp × St
  | 0, s => ([], s)
  | n + 1, s => ((rdG s).1 :: (rdN n (rdG s).2).1, (rdN n (rdG s).2).2)
/-- .. by one that stops where it is bad. -/
def rdD : Nat → St → List Sp × St
  | 0, s => ([], s)
  | n + 1, s => if s.bad then ([], s) else ((rdG s).1 :: (rdD n (rdG s).2).1, (rdD n (rdG s).2).2)
def rdL (b : List UInt8) : List Sp × St := rdN (count 32 ⟨b, false⟩) (countS 32 ⟨b, false⟩)
def rdM (b : List UInt8) : List Sp × St := rdD (count 32 ⟨b, false⟩) (countS 32 ⟨b, false⟩)
def decP (b : List UInt8) : Option (List Sp) := if endB (rdL b).2 && rightL (rdL b).1 then some (rdL b).1 else none
def decD (b : List UInt8) : Option (List Sp) := if (rdM b).2.bad || !rightL (rdM b).1 || encL (rdM b).1 != b then none else some (rdM b).1
/-! ### Bad stays bad; what is left -/
theorem le_leVal : ∀ l : List UInt8, le l.length (leVal l) = l
  | [] => rfl
  | x :: r => by
    have hx := x.toNat_lt
    have h1 : (x.toNat + 256 * leVal r) % 256 = x.toNat := by omega
    have h2 : (x.toNat + 256 * leVal r) / 256 = leVal r := by omega
    simp only [List.length_cons, le, leVal, h1, h2, le_leVal r]
    simp
theorem tkS_good {n : Nat} {s : St} (h : (tkS n s).bad = false) : s.bad = false ∧ n ≤ s.left.length ∧ s.left = tk n s ++ (tkS n s).left ∧ (tk n s).length = n := by
  unfold tkS at h
  split at h
  · cases h
  · rename_i hs
    have hs : short n s = false := by simpa using hs
    have h0 := hs
    unfold short at h0
    simp at h0
    refine ⟨h0.1, h0.2, ?_, ?_⟩
    · unfold tk tkS
      rw [hs]
      simp
    · unfold tk
      rw [hs]
      simp
      omega
theorem countS_good {m : Int} {s : St} (h : (countS m s).bad = false) : s.bad = false ∧ count m s = small s ∧ (count m s : Int) ≤ m ∧ s.left = encSmall (count m s) ++ (countS m s).left := by
  unfold countS at h
  split at h
  · cases h
  · rename_i hs
    have hs : over m s = false := by simpa using hs
    obtain ⟨h1, h2, h3, h4⟩ := tkS_good h
    have hc : count m s = small s := by unfold count; rw [hs]; rfl
    have hlt := small_lt s
    refine ⟨h1, hc, ?_, ?_⟩
    · rw [hc]
      unfold over at hs
      simp at hs
      exact hs
    · rw [hc]
      have e : encSmall (small s) = tk 2 s := by
        unfold encSmall
        have hcl : clip (small s) = small s := by unfold clip; omega
        rw [hcl]
        have := le_leVal (tk 2 s)
        rw [h4] at this
        exact this
      rw [e]
      unfold countS
      rw [hs]
      exact h3
theorem textS_good {m : Int} {s : St} (h : (textS m s).bad = false) (hm : m ≤ 65535) : s.bad = false ∧ ((text m s).length : Int) ≤ m ∧ s.left = encText (text m s) ++ (textS m s).left := by
  unfold textS at h
  obtain ⟨h1, h2, h3, h4⟩ := tkS_good h
  obtain ⟨g1, g2, g3, g4⟩ := countS_good h1
  have hl : (text m s).length = count m s := h4
  refine ⟨g1, by rw [hl]; exact g3, ?_⟩
  have e : encText (text m s) = encSmall (count m s) ++ text m s := by
    unfold encText encSmall
    have hcl : clip (count m s) = count m s := by unfold clip; omega
    rw [hcl, hl, Nat.min_eq_left (by omega), List.take_of_length_le (by rw [hl]; exact Nat.le_refl _)]
  rw [e, List.append_assoc]
  rw [g4]
  congr 1
theorem rdP_good : ∀ (n : Nat) (s : St), (rdP n s).2.bad = false → s.bad = false ∧ (rdP n s).1.length = n ∧ s.left = encP (rdP n s).1 ++ (rdP n s).2.left
  | 0, s, h => ⟨h, rfl, rfl⟩
  | n + 1, s, h => by
    obtain ⟨h1, h2, h3⟩ := rdP_good n (countS 2 s) h
    obtain ⟨g1, g2, g3, g4⟩ := countS_good h1
    refine ⟨g1, by simp [rdP, h2], ?_⟩
    rw [g4, h3]
    simp [rdP, encP]
theorem rdG_good {s : St} (h : (rdG s).2.bad = false) : s.bad = false ∧ s.left = encG (rdG s).1 ++ (rdG s).2.left := by
  obtain ⟨a1, a2, a3, a4⟩ := countS_good (s := (rdP (count 4 (textS 16 s)) (countS 4 (textS 16 s))).2) h
  obtain ⟨b1, b2, b3⟩ := rdP_good _ _ a1
  obtain ⟨c1, c2, c3, c4⟩ := countS_good b1
  obtain ⟨d1, d2, d3⟩ := textS_good c1 (by omega)
  refine ⟨d1, ?_⟩
  rw [d3, c4, b3, a4]
  unfold rdG encG
  simp only [List.append_assoc, b2]
theorem rdN_len : ∀ (n : Nat) (s : St), (rdN n s).1.length = n
  | 0, _ => rfl
  | n + 1, s => by simp [rdN, rdN_len n]
theorem rdN_good : ∀ (n : Nat) (s : St), (rdN n s).2.bad = false → s.bad = false ∧ s.left = encB (rdN n s).1 ++ (rdN n s).2.left
  | 0, s, h => ⟨h, rfl⟩
  | n + 1, s, h => by
    obtain ⟨h1, h2⟩ := rdN_good n (rdG s).2 h
    obtain ⟨g1, g2⟩ := rdG_good h1
    refine ⟨g1, ?_⟩
    rw [g2, h2]
    simp [rdN, encB]
theorem rdD_same : ∀ (n : Nat) (s : St), (rdN n s).2.bad = (rdD n s).2.bad ∧ ((rdN n s).2.bad = false → rdN n s = rdD n s)
  | 0, s => ⟨rfl, fun _ => rfl⟩
  | n + 1, s => by
    unfold rdD
    split
    · rename_i hb
      have h0 : (rdN (n + 1) s).2.bad = true := by
        cases h : (rdN (n + 1) s).2.bad with
        | true => rfl
        | false => rw [(rdN_good (n + 1) s h).1] at hb; cases hb
      exact ⟨by rw [h0, hb], fun h => by rw [h0] at h; cases h⟩
    · obtain ⟨h1, h2⟩ := rdD_same n (rdG s).2
      exact ⟨h1, fun h => by unfold rdN; rw [h2 h]⟩
theorem rdL_good {b : List UInt8} (h : (rdL b).2.bad = false) : b = encL (rdL b).1 ++ (rdL b).2.left := by
  obtain ⟨h1, h2⟩ := rdN_good _ _ h
  obtain ⟨g1, g2, g3, g4⟩ := countS_good h1
  have g5 : b = encSmall (count 32 ⟨b, false⟩) ++ (countS 32 ⟨b, false⟩).left := g4
  have hl : (rdL b).1.length = count 32 ⟨b, false⟩ := rdN_len _ _
  unfold encL
  rw [hl, List.append_assoc]
  rw [show encB (rdL b).1 ++ (rdL b).2.left = (countS 32 ⟨b, false⟩).left from h2.symm]
  exact g5
theorem dec_eq (b : List UInt8) : decD b = decP b := by
  obtain ⟨h1, h2⟩ := rdD_same (count 32 ⟨b, false⟩) (countS 32 ⟨b, false⟩)
  have h1 : (rdL b).2.bad = (rdM b).2.bad := h1
  unfold decD decP
  rw [← h1]
  cases hb : (rdL b).2.bad with
  | true => simp [endB, hb]
  | false =>
    have e : rdM b = rdL b := (h2 hb).symm
    rw [e]
    have hx := rdL_good hb
    cases hr : rightL (rdL b).1 with
    | false => simp
    | true =>
      by_cases hl : (rdL b).2.left.length = 0
      · have hl' : (rdL b).2.left = [] := List.eq_nil_of_length_eq_zero hl
        rw [hl', List.append_nil] at hx
        have he : endB (rdL b).2 = true := by unfold endB; rw [hb, decide_eq_true hl]; rfl
        rw [he, ← hx]
        simp
      · have he : endB (rdL b).2 = false := by unfold endB; rw [hb, decide_eq_false hl]; rfl
        have hne : (encL (rdL b).1 != b) = true := by
          rw [bne_iff_ne]
          intro e2
          rw [e2] at hx
          have := congrArg List.length hx
          rw [List.length_append] at this
          omega
        rw [he, hne]
        simp
theorem decP_some {b : List UInt8} {l : List Sp} (h : decP b = some l) : rightL l = true ∧ encL l = b := by
  unfold decP at h
  split at h
  · rename_i hc
    rw [Bool.and_eq_true] at hc
    injection h with h
    subst h
    have hb : (rdL b).2.bad = false := by
      have := hc.1
      unfold endB at this
      simp at this
      exact this.1
    have hl : (rdL b).2.left = [] := by
      have := hc.1
      unfold endB at this
      simp at this
      exact this.2
    have hx := rdL_good hb
    rw [hl, List.append_nil] at hx
    exact ⟨hc.2, hx.symm⟩
  · cases h
/-! ### There and back -/
theorem count_back (m : Int) (n : Nat) (r : List UInt8) (h : (n : Int) ≤ m) (h2 : n < 65536) : count m ⟨encSmall n ++ r, false⟩ = n ∧ countS m ⟨encSmall n ++ r, false⟩ = ⟨r, false⟩ := by
  have hcl : clip n = n := by unfold clip; omega
  unfold encSmall
  rw [hcl]
  obtain ⟨h3, h4⟩ := small_back n r h2
  have ho : over m ⟨le 2 n ++ r, false⟩ = false := by unfold over; rw [h3]; simp; omega
  unfold count countS
  rw [ho]
  exact ⟨h3, h4⟩
theorem text_back16 (s r : List UInt8) (h : s.length ≤ 16) : text 16 ⟨encText s ++ r, false⟩ = s ∧ textS 16 ⟨encText s ++ r, false⟩ = ⟨r, false⟩ := by
  have h0 : encText s = encSmall s.length ++ s := by
    unfold encText encSmall
    have hcl : clip s.length = s.length := by unfold clip; omega
    rw [hcl, Nat.min_eq_left (by omega), List.take_length]
  rw [h0, List.append_assoc]
  obtain ⟨h1, h2⟩ := count_back 16 s.length (s ++ r) (by omega) (by omega)
  unfold text textS
  rw [h1, h2]
  exact tk_app s r s.length rfl
def smallT (t : Int) : Prop := 0 ≤ t ∧ t ≤ 2
theorem rdP_back : ∀ (p : List Int) (r : List UInt8), (∀ t ∈ p, smallT t) → rdP p.length ⟨encP p ++ r, false⟩ = (p, ⟨r, false⟩)
  | [], r, _ => rfl
  | t :: p, r, h => by
    have h0 := h t (by simp)
    unfold smallT at h0
    obtain ⟨h1, h2⟩ := count_back 2 t.toNat (encP p ++ r) (by omega) (by omega)
    have ht : ((t.toNat : Nat) : Int) = t := by omega
    rw [ht] at h1 h2
    have e : encP (t :: p) ++ r = encSmall t ++ (encP p ++ r) := by simp [encP]
    rw [e, List.length_cons]
    unfold rdP
    rw [h2, rdP_back p r (fun x hx => h x (by simp [hx])), h1, ht]
theorem valT_small {t : Int} (h : valT t = true) : smallT t := by
  unfold valT at h
  simp at h
  unfold smallT
  omega
theorem resT_small {t : Int} (h : resT t = true) : smallT t := by
  unfold resT at h
  rw [Bool.or_eq_true] at h
  rcases h with h | h
  · simp at h
    unfold smallT
    omega
  · exact valT_small h
structure OkG (s : Sp) : Prop where
  name : s.s.length ≤ 16
  few : s.p.length ≤ 4
  ps : ∀ t ∈ s.p, smallT t
  r : smallT s.r
theorem rdG_back {s : Sp} (h : OkG s) (r : List UInt8) : rdG ⟨encG s ++ r, false⟩ = (s, ⟨r, false⟩) := by
  have e : encG s ++ r = encText s.s ++ (encSmall s.p.length ++ (encP s.p ++ (encSmall s.r ++ r))) := by unfold encG; simp only [List.append_assoc]
  rw [e]
  obtain ⟨a1, a2⟩ := text_back16 s.s (encSmall s.p.length ++ (encP s.p ++ (encSmall s.r ++ r))) h.name
  obtain ⟨b1, b2⟩ := count_back 4 s.p.length (encP s.p ++ (encSmall s.r ++ r)) (by have := h.few; omega) (by have := h.few; omega)
  have c := rdP_back s.p (encSmall s.r ++ r) h.ps
  have hr := h.r
  unfold smallT at hr
  obtain ⟨d1, d2⟩ := count_back 2 s.r.toNat r (by omega) (by omega)
  have ht : ((s.r.toNat : Nat) : Int) = s.r := by omega
  rw [ht] at d1 d2
  unfold rdG
  rw [a1, a2, b1, b2, c, d1, d2, ht]
theorem rdN_back : ∀ (l : List Sp) (r : List UInt8), (∀ s ∈ l, OkG s) → rdN l.length ⟨encB l ++ r, false⟩ = (l, ⟨r, false⟩)
  | [], r, _ => rfl
  | s :: l, r, h => by
    have e : encB (s :: l) ++ r = encG s ++ (encB l ++ r) := by simp [encB]
    rw [e, List.length_cons]
    unfold rdN
    rw [rdG_back (h s (by simp)), rdN_back l r (fun x hx => h x (by simp [hx]))]
theorem nameOk_len {s : List UInt8} (h : Lex.nameOk s = true) : s.length ≤ 16 := by
  unfold Lex.nameOk at h
  simp at h
  exact h.1.1.1.2
theorem typedP_ok {s : Sp} (h : typedP s = true) (hn : Lex.nameOk s.s = true) : OkG s := by
  unfold typedP at h
  rw [Bool.and_eq_true, Bool.and_eq_true] at h
  obtain ⟨h1, h2, h3⟩ := h
  refine ⟨nameOk_len hn, by simpa using h1, fun t ht => valT_small (List.all_eq_true.1 h2 t ht), resT_small h3⟩
theorem chainP_ok : ∀ (l : List Sp) (a : List UInt8), chainP a l = true → ∀ s ∈ l, OkG s
  | [], _, _, s, hs => by simp at hs
  | x :: l, a, h, s, hs => by
    unfold chainP at h
    rw [Bool.and_eq_true, Bool.and_eq_true] at h
    obtain ⟨⟨h1, h2⟩, h3⟩ := h
    rcases List.mem_cons.1 hs with rfl | hs
    · unfold risP at h1
      rw [Bool.and_eq_true] at h1
      exact typedP_ok h2 h1.1
    · exact chainP_ok l _ h3 s hs
theorem rightL_ok {l : List Sp} (h : rightL l = true) : l.length ≤ 32 ∧ ∀ s ∈ l, OkG s := by
  unfold rightL at h
  rw [Bool.and_eq_true] at h
  exact ⟨by simpa using h.1, chainP_ok l _ h.2⟩
theorem decP_back {l : List Sp} (h : rightL l = true) : decP (encL l) = some l := by
  obtain ⟨h1, h2⟩ := rightL_ok h
  have e : rdL (encL l) = (l, ⟨[], false⟩) := by
    have hh := count_back 32 l.length (encB l) (by omega) (by omega)
    have hb := rdN_back l [] h2
    rw [List.append_nil] at hb
    unfold rdL encL
    rw [hh.1, hh.2, hb]
  unfold decP
  rw [e, h]
  rfl
/-! ### How long -/
theorem encP_len : ∀ p : List Int, (encP p).length = 2 * p.length
  | [] => rfl
  | t :: p => by
    have h1 := encP_len p
    unfold encP at *
    rw [List.flatMap_cons, List.length_append, encSmall_length, h1, List.length_cons]
    omega
theorem encG_len {s : Sp} (h : OkG s) : (encG s).length ≤ 30 := by
  unfold encG
  have h1 := h.name
  have h2 := h.few
  rw [List.length_append, List.length_append, List.length_append, encText_length, encSmall_length, encSmall_length, encP_len]
  omega
theorem encB_len : ∀ l : List Sp, (∀ s ∈ l, OkG s) → (encB l).length ≤ 30 * l.length
  | [], _ => by simp [encB]
  | s :: l, h => by
    have h1 := encG_len (h s (by simp))
    have h2 := encB_len l (fun x hx => h x (by simp [hx]))
    unfold encB at *
    rw [List.flatMap_cons, List.length_append, List.length_cons]
    omega
theorem encL_len {l : List Sp} (h : rightL l = true) : (encL l).length ≤ 962 := by
  obtain ⟨h1, h2⟩ := rightL_ok h
  have := encB_len l h2
  unfold encL
  rw [List.length_append, encSmall_length]
  omega
end Go.Proofs.Ytofadlenblobnaa.Exp
