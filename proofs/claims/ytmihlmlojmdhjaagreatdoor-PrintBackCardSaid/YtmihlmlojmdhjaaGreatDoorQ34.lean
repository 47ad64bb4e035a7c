/-
  The program's writer writes statements, once it writes expressions and blocks as it must. Conditions: all lies in memory below the writer; sizes.
-/
import Derived.Test.YtmihlmlojmdhjaaGreatDoorQ33
namespace Go.Proofs.YtmihlmlojmdhjaaGreatDoor.Wr
open Go.RowKit Tre
set_option maxRecDepth 100000
set_option linter.unusedSimpArgs false
section
variable {w0 : World} {b o : Nat} {w : World} {l : List UInt8}
theorem size_data (s : ByteArray) : s.data.size = s.size := rfl
set_option maxHeartbeats 8000000 in
theorem st_def (s : ByteArray) (e : Ex) (a a2 : Option Addr) (c c2 : Nat) (k k2 : Nat) (HX : ElX w0 b o e) (h : Wt w w0.heap.size b o l) (hb : Below w0.heap.size w0 w) (hs : l.length + (s.data.toList ++ ([32, 58, 61, 32] ++ TX e)).length ≤ room) :
    Calls Tryz.prog 126 #[pb b, .agg #[.int .i64 1, .string s, .int .i64 e.op, .int .i64 e.n, .string e.s, .string e.q, .slice e.a e.x.length e.c, .slice a k c, .slice a2 k2 c2]] w (Wrote w0.heap.size b o (l ++ (s.data.toList ++ ([32, 58, 61, 32] ++ TX e))) w) := by
  obtain ⟨T0, S0, HN0, hne⟩ := h.box #[.int .i64 1, .string s, .int .i64 e.op, .int .i64 e.n, .string e.s, .string e.q, .slice e.a e.x.length e.c, .slice a k c, .slice a2 k2 c2] 47
  obtain ⟨W0, hW0⟩ : ∃ W0, w.alloc (.cells #[.int .i64 1, .string s, .int .i64 e.op, .int .i64 e.n, .string e.s, .string e.q, .slice e.a e.x.length e.c, .slice a k c, .slice a2 k2 c2] 47) = W0 := ⟨_, rfl⟩
  rw [hW0] at T0 S0 HN0
  obtain ⟨z0, z1, z2, z3, z4, z5, z6, z7, z8⟩ := x9 HN0
  unfold ElX at HX
  rw [exV_eq] at HX
  have HX := Lib.hid HX
  have G2 := Lib.hid S0
  have GH0 := Lib.hid HN0
  have G4 := Lib.hid hne
  have GB0 := Lib.hid (hb.trans S0.below)
  have G6 : Hid (l.length + s.size + 4 + (TX e).length ≤ room) := Lib.hid (by (try simp only [List.length_append, List.length_cons, List.length_nil, Array.length_toList, size_data] at hs); omega)
  have C1 := Lib.hid (lay2 T0 s ⟨#[32, 58, 61, 32]⟩ (by have := G6.out; simp only [List.length_append, List.length_cons, List.length_nil, Array.length_toList, size_data, show (⟨#[32, 58, 61, 32]⟩ : ByteArray).size = 4 from rfl]; omega))
  clear h hb hs T0 S0 HN0 hne
  go_enter Tryz.func126, Tryz.ntmps126
  go_wp2_with fail
  refine C1.out.mono ?_
  rintro e1 w1 ⟨rfl, h1, h2⟩
  have K1 := Lib.hid (G2.out.trans h2)
  have GH1 := Lib.hid (h2.keep _ _ _ (by decide) G4.out GH0.out)
  obtain ⟨z0, z1, z2, z3, z4, z5, z6, z7, z8⟩ := x9 GH1.out
  have GB1 := Lib.hid (GB0.out.trans h2.below)
  have C2 := Lib.hid (HX.out _ _ h1 GB1.out (by have := G6.out; (try simp only [List.length_append, List.length_cons, List.length_nil, Array.length_toList, size_data]); omega))
  clear h1 h2
  go_wp2_with fail
  refine C2.out.mono ?_
  rintro e1 w2 ⟨rfl, h1, h2⟩
  have K2 := Lib.hid (K1.out.trans h2)
  have KE := Lib.hid h1
  clear h1 h2
  go_wp2_with fail
  go_end0
  exact ⟨rfl, by simpa using KE.out, K2.out⟩
set_option maxHeartbeats 8000000 in
theorem st_set (s : ByteArray) (e : Ex) (a a2 : Option Addr) (c c2 : Nat) (k k2 : Nat) (HX : ElX w0 b o e) (h : Wt w w0.heap.size b o l) (hb : Below w0.heap.size w0 w) (hs : l.length + (s.data.toList ++ ([32, 61, 32] ++ TX e)).length ≤ room) :
    Calls Tryz.prog 126 #[pb b, .agg #[.int .i64 2, .string s, .int .i64 e.op, .int .i64 e.n, .string e.s, .string e.q, .slice e.a e.x.length e.c, .slice a k c, .slice a2 k2 c2]] w (Wrote w0.heap.size b o (l ++ (s.data.toList ++ ([32, 61, 32] ++ TX e))) w) := by
  obtain ⟨T0, S0, HN0, hne⟩ := h.box #[.int .i64 2, .string s, .int .i64 e.op, .int .i64 e.n, .string e.s, .string e.q, .slice e.a e.x.length e.c, .slice a k c, .slice a2 k2 c2] 47
  obtain ⟨W0, hW0⟩ : ∃ W0, w.alloc (.cells #[.int .i64 2, .string s, .int .i64 e.op, .int .i64 e.n, .string e.s, .string e.q, .slice e.a e.x.length e.c, .slice a k c, .slice a2 k2 c2] 47) = W0 := ⟨_, rfl⟩
  rw [hW0] at T0 S0 HN0
  obtain ⟨z0, z1, z2, z3, z4, z5, z6, z7, z8⟩ := x9 HN0
  unfold ElX at HX
  rw [exV_eq] at HX
  have HX := Lib.hid HX
  have G2 := Lib.hid S0
  have GH0 := Lib.hid HN0
  have G4 := Lib.hid hne
  have GB0 := Lib.hid (hb.trans S0.below)
  have G6 : Hid (l.length + s.size + 3 + (TX e).length ≤ room) := Lib.hid (by (try simp only [List.length_append, List.length_cons, List.length_nil, Array.length_toList, size_data] at hs); omega)
  have C1 := Lib.hid (lay2 T0 s ⟨#[32, 61, 32]⟩ (by have := G6.out; simp only [List.length_append, List.length_cons, List.length_nil, Array.length_toList, size_data, show (⟨#[32, 61, 32]⟩ : ByteArray).size = 3 from rfl]; omega))
  clear h hb hs T0 S0 HN0 hne
  go_enter Tryz.func126, Tryz.ntmps126
  go_wp2_with fail
  refine C1.out.mono ?_
  rintro e1 w1 ⟨rfl, h1, h2⟩
  have K1 := Lib.hid (G2.out.trans h2)
  have GH1 := Lib.hid (h2.keep _ _ _ (by decide) G4.out GH0.out)
  obtain ⟨z0, z1, z2, z3, z4, z5, z6, z7, z8⟩ := x9 GH1.out
  have GB1 := Lib.hid (GB0.out.trans h2.below)
  have C2 := Lib.hid (HX.out _ _ h1 GB1.out (by have := G6.out; (try simp only [List.length_append, List.length_cons, List.length_nil, Array.length_toList, size_data]); omega))
  clear h1 h2
  go_wp2_with fail
  refine C2.out.mono ?_
  rintro e1 w2 ⟨rfl, h1, h2⟩
  have K2 := Lib.hid (K1.out.trans h2)
  have KE := Lib.hid h1
  clear h1 h2
  go_wp2_with fail
  go_end0
  exact ⟨rfl, by simpa using KE.out, K2.out⟩
set_option maxHeartbeats 8000000 in
theorem st_for (s : ByteArray) (e : Ex) (a a2 : Option Addr) (c c2 : Nat) (sb : List St) (k2 : Nat) (HX : ElX w0 b o e) (HB1 : ElB w0 b o a c sb) (h : Wt w w0.heap.size b o l) (hb : Below w0.heap.size w0 w) (hs : l.length + ([102, 111, 114, 32] ++ (TX e ++ TB o sb)).length ≤ room) :
    Calls Tryz.prog 126 #[pb b, .agg #[.int .i64 4, .string s, .int .i64 e.op, .int .i64 e.n, .string e.s, .string e.q, .slice e.a e.x.length e.c, .slice a sb.length c, .slice a2 k2 c2]] w (Wrote w0.heap.size b o (l ++ ([102, 111, 114, 32] ++ (TX e ++ TB o sb))) w) := by
  obtain ⟨T0, S0, HN0, hne⟩ := h.box #[.int .i64 4, .string s, .int .i64 e.op, .int .i64 e.n, .string e.s, .string e.q, .slice e.a e.x.length e.c, .slice a sb.length c, .slice a2 k2 c2] 47
  obtain ⟨W0, hW0⟩ : ∃ W0, w.alloc (.cells #[.int .i64 4, .string s, .int .i64 e.op, .int .i64 e.n, .string e.s, .string e.q, .slice e.a e.x.length e.c, .slice a sb.length c, .slice a2 k2 c2] 47) = W0 := ⟨_, rfl⟩
  rw [hW0] at T0 S0 HN0
  obtain ⟨z0, z1, z2, z3, z4, z5, z6, z7, z8⟩ := x9 HN0
  unfold ElX at HX
  rw [exV_eq] at HX
  have HX := Lib.hid HX
  have HB1 := Lib.hid HB1
  have G2 := Lib.hid S0
  have GH0 := Lib.hid HN0
  have G4 := Lib.hid hne
  have GB0 := Lib.hid (hb.trans S0.below)
  have G6 : Hid (l.length + 4 + (TX e).length + (TB o sb).length ≤ room) := Lib.hid (by (try simp only [List.length_append, List.length_cons, List.length_nil, Array.length_toList, size_data] at hs); omega)
  have C1 := Lib.hid (lay1 T0 ⟨#[102, 111, 114, 32]⟩ (by have := G6.out; simp only [List.length_append, List.length_cons, List.length_nil, Array.length_toList, size_data, show (⟨#[102, 111, 114, 32]⟩ : ByteArray).size = 4 from rfl]; omega))
  clear h hb hs T0 S0 HN0 hne
  go_enter Tryz.func126, Tryz.ntmps126
  go_wp2_with fail
  refine C1.out.mono ?_
  rintro e1 w1 ⟨rfl, h1, h2⟩
  have K1 := Lib.hid (G2.out.trans h2)
  have GH1 := Lib.hid (h2.keep _ _ _ (by decide) G4.out GH0.out)
  obtain ⟨z0, z1, z2, z3, z4, z5, z6, z7, z8⟩ := x9 GH1.out
  have GB1 := Lib.hid (GB0.out.trans h2.below)
  have C2 := Lib.hid (HX.out _ _ h1 GB1.out (by have := G6.out; (try simp only [List.length_append, List.length_cons, List.length_nil, Array.length_toList, size_data]); omega))
  clear h1 h2
  go_wp2_with fail
  refine C2.out.mono ?_
  rintro e1 w2 ⟨rfl, h1, h2⟩
  have K2 := Lib.hid (K1.out.trans h2)
  have GH2 := Lib.hid (h2.keep _ _ _ (by decide) G4.out GH1.out)
  obtain ⟨z0, z1, z2, z3, z4, z5, z6, z7, z8⟩ := x9 GH2.out
  have GB2 := Lib.hid (GB1.out.trans h2.below)
  have C3 := Lib.hid (HB1.out _ _ h1 GB2.out (by have := G6.out; (try simp only [List.length_append, List.length_cons, List.length_nil, Array.length_toList, size_data]); omega))
  clear h1 h2
  go_wp2_with fail
  refine C3.out.mono ?_
  rintro e1 w3 ⟨rfl, h1, h2⟩
  have K3 := Lib.hid (K2.out.trans h2)
  have KE := Lib.hid h1
  clear h1 h2
  go_wp2_with fail
  go_end0
  exact ⟨rfl, by simpa using KE.out, K3.out⟩
set_option maxHeartbeats 8000000 in
theorem st_print (s : ByteArray) (e : Ex) (a a2 : Option Addr) (c c2 : Nat) (k k2 : Nat) (HX : ElX w0 b o e) (h : Wt w w0.heap.size b o l) (hb : Below w0.heap.size w0 w) (hs : l.length + ([112, 114, 105, 110, 116, 40] ++ (TX e ++ [41])).length ≤ room) :
    Calls Tryz.prog 126 #[pb b, .agg #[.int .i64 6, .string s, .int .i64 e.op, .int .i64 e.n, .string e.s, .string e.q, .slice e.a e.x.length e.c, .slice a k c, .slice a2 k2 c2]] w (Wrote w0.heap.size b o (l ++ ([112, 114, 105, 110, 116, 40] ++ (TX e ++ [41]))) w) := by
  obtain ⟨T0, S0, HN0, hne⟩ := h.box #[.int .i64 6, .string s, .int .i64 e.op, .int .i64 e.n, .string e.s, .string e.q, .slice e.a e.x.length e.c, .slice a k c, .slice a2 k2 c2] 47
  obtain ⟨W0, hW0⟩ : ∃ W0, w.alloc (.cells #[.int .i64 6, .string s, .int .i64 e.op, .int .i64 e.n, .string e.s, .string e.q, .slice e.a e.x.length e.c, .slice a k c, .slice a2 k2 c2] 47) = W0 := ⟨_, rfl⟩
  rw [hW0] at T0 S0 HN0
  obtain ⟨z0, z1, z2, z3, z4, z5, z6, z7, z8⟩ := x9 HN0
  unfold ElX at HX
  rw [exV_eq] at HX
  have HX := Lib.hid HX
  have G2 := Lib.hid S0
  have GH0 := Lib.hid HN0
  have G4 := Lib.hid hne
  have GB0 := Lib.hid (hb.trans S0.below)
  have G6 : Hid (l.length + 6 + (TX e).length + 1 ≤ room) := Lib.hid (by (try simp only [List.length_append, List.length_cons, List.length_nil, Array.length_toList, size_data] at hs); omega)
  have C1 := Lib.hid (lay1 T0 ⟨#[112, 114, 105, 110, 116, 40]⟩ (by have := G6.out; simp only [List.length_append, List.length_cons, List.length_nil, Array.length_toList, size_data, show (⟨#[112, 114, 105, 110, 116, 40]⟩ : ByteArray).size = 6 from rfl]; omega))
  clear h hb hs T0 S0 HN0 hne
  go_enter Tryz.func126, Tryz.ntmps126
  go_wp2_with fail
  refine C1.out.mono ?_
  rintro e1 w1 ⟨rfl, h1, h2⟩
  have K1 := Lib.hid (G2.out.trans h2)
  have GH1 := Lib.hid (h2.keep _ _ _ (by decide) G4.out GH0.out)
  obtain ⟨z0, z1, z2, z3, z4, z5, z6, z7, z8⟩ := x9 GH1.out
  have GB1 := Lib.hid (GB0.out.trans h2.below)
  have C2 := Lib.hid (HX.out _ _ h1 GB1.out (by have := G6.out; (try simp only [List.length_append, List.length_cons, List.length_nil, Array.length_toList, size_data]); omega))
  clear h1 h2
  go_wp2_with fail
  refine C2.out.mono ?_
  rintro e1 w2 ⟨rfl, h1, h2⟩
  have K2 := Lib.hid (K1.out.trans h2)
  have GH2 := Lib.hid (h2.keep _ _ _ (by decide) G4.out GH1.out)
  obtain ⟨z0, z1, z2, z3, z4, z5, z6, z7, z8⟩ := x9 GH2.out
  have GB2 := Lib.hid (GB1.out.trans h2.below)
  have C3 := Lib.hid (lay1 h1 ⟨#[41]⟩ (by have := G6.out; simp only [List.length_append, List.length_cons, List.length_nil, Array.length_toList, size_data, show (⟨#[41]⟩ : ByteArray).size = 1 from rfl]; omega))
  clear h1 h2
  go_wp2_with fail
  refine C3.out.mono ?_
  rintro e1 w3 ⟨rfl, h1, h2⟩
  have K3 := Lib.hid (K2.out.trans h2)
  have KE := Lib.hid h1
  clear h1 h2
  go_wp2_with fail
  go_end0
  exact ⟨rfl, by simpa using KE.out, K3.out⟩
set_option maxHeartbeats 8000000 in
theorem st_call (s : ByteArray) (e : Ex) (a a2 : Option Addr) (c c2 : Nat) (k k2 : Nat) (HX : ElX w0 b o e) (h : Wt w w0.heap.size b o l) (hb : Below w0.heap.size w0 w) (hs : l.length + (TX e).length ≤ room) :
    Calls Tryz.prog 126 #[pb b, .agg #[.int .i64 7, .string s, .int .i64 e.op, .int .i64 e.n, .string e.s, .string e.q, .slice e.a e.x.length e.c, .slice a k c, .slice a2 k2 c2]] w (Wrote w0.heap.size b o (l ++ (TX e)) w) := by
  obtain ⟨T0, S0, HN0, hne⟩ := h.box #[.int .i64 7, .string s, .int .i64 e.op, .int .i64 e.n, .string e.s, .string e.q, .slice e.a e.x.length e.c, .slice a k c, .slice a2 k2 c2] 47
  obtain ⟨W0, hW0⟩ : ∃ W0, w.alloc (.cells #[.int .i64 7, .string s, .int .i64 e.op, .int .i64 e.n, .string e.s, .string e.q, .slice e.a e.x.length e.c, .slice a k c, .slice a2 k2 c2] 47) = W0 := ⟨_, rfl⟩
  rw [hW0] at T0 S0 HN0
  obtain ⟨z0, z1, z2, z3, z4, z5, z6, z7, z8⟩ := x9 HN0
  unfold ElX at HX
  rw [exV_eq] at HX
  have HX := Lib.hid HX
  have G2 := Lib.hid S0
  have GH0 := Lib.hid HN0
  have G4 := Lib.hid hne
  have GB0 := Lib.hid (hb.trans S0.below)
  have G6 : Hid (l.length + (TX e).length ≤ room) := Lib.hid (by (try simp only [List.length_append, List.length_cons, List.length_nil, Array.length_toList, size_data] at hs); omega)
  have C1 := Lib.hid (HX.out _ _ T0 GB0.out (by have := G6.out; (try simp only [List.length_append, List.length_cons, List.length_nil, Array.length_toList, size_data]); omega))
  clear h hb hs T0 S0 HN0 hne
  go_enter Tryz.func126, Tryz.ntmps126
  go_wp2_with fail
  refine C1.out.mono ?_
  rintro e1 w1 ⟨rfl, h1, h2⟩
  have K1 := Lib.hid (G2.out.trans h2)
  have KE := Lib.hid h1
  clear h1 h2
  go_wp2_with fail
  go_end0
  exact ⟨rfl, by simpa using KE.out, K1.out⟩
set_option maxHeartbeats 8000000 in
theorem st_break (s : ByteArray) (e : Ex) (a a2 : Option Addr) (c c2 : Nat) (k k2 : Nat)  (h : Wt w w0.heap.size b o l) (hb : Below w0.heap.size w0 w) (hs : l.length + ([98, 114, 101, 97, 107]).length ≤ room) :
    Calls Tryz.prog 126 #[pb b, .agg #[.int .i64 8, .string s, .int .i64 e.op, .int .i64 e.n, .string e.s, .string e.q, .slice e.a e.x.length e.c, .slice a k c, .slice a2 k2 c2]] w (Wrote w0.heap.size b o (l ++ ([98, 114, 101, 97, 107])) w) := by
  obtain ⟨T0, S0, HN0, hne⟩ := h.box #[.int .i64 8, .string s, .int .i64 e.op, .int .i64 e.n, .string e.s, .string e.q, .slice e.a e.x.length e.c, .slice a k c, .slice a2 k2 c2] 47
  obtain ⟨W0, hW0⟩ : ∃ W0, w.alloc (.cells #[.int .i64 8, .string s, .int .i64 e.op, .int .i64 e.n, .string e.s, .string e.q, .slice e.a e.x.length e.c, .slice a k c, .slice a2 k2 c2] 47) = W0 := ⟨_, rfl⟩
  rw [hW0] at T0 S0 HN0
  obtain ⟨z0, z1, z2, z3, z4, z5, z6, z7, z8⟩ := x9 HN0
  have G2 := Lib.hid S0
  have GH0 := Lib.hid HN0
  have G4 := Lib.hid hne
  have GB0 := Lib.hid (hb.trans S0.below)
  have G6 : Hid (l.length + 5 ≤ room) := Lib.hid (by (try simp only [List.length_append, List.length_cons, List.length_nil, Array.length_toList, size_data] at hs); omega)
  have C1 := Lib.hid (lay1 T0 ⟨#[98, 114, 101, 97, 107]⟩ (by have := G6.out; simp only [List.length_append, List.length_cons, List.length_nil, Array.length_toList, size_data, show (⟨#[98, 114, 101, 97, 107]⟩ : ByteArray).size = 5 from rfl]; omega))
  clear h hb hs T0 S0 HN0 hne
  go_enter Tryz.func126, Tryz.ntmps126
  go_wp2_with fail
  refine C1.out.mono ?_
  rintro e1 w1 ⟨rfl, h1, h2⟩
  have K1 := Lib.hid (G2.out.trans h2)
  have KE := Lib.hid h1
  clear h1 h2
  go_wp2_with fail
  go_end0
  exact ⟨rfl, by simpa using KE.out, K1.out⟩
set_option maxHeartbeats 8000000 in
theorem st_next (s : ByteArray) (e : Ex) (a a2 : Option Addr) (c c2 : Nat) (k k2 : Nat)  (h : Wt w w0.heap.size b o l) (hb : Below w0.heap.size w0 w) (hs : l.length + ([99, 111, 110, 116, 105, 110, 117, 101]).length ≤ room) :
    Calls Tryz.prog 126 #[pb b, .agg #[.int .i64 9, .string s, .int .i64 e.op, .int .i64 e.n, .string e.s, .string e.q, .slice e.a e.x.length e.c, .slice a k c, .slice a2 k2 c2]] w (Wrote w0.heap.size b o (l ++ ([99, 111, 110, 116, 105, 110, 117, 101])) w) := by
  obtain ⟨T0, S0, HN0, hne⟩ := h.box #[.int .i64 9, .string s, .int .i64 e.op, .int .i64 e.n, .string e.s, .string e.q, .slice e.a e.x.length e.c, .slice a k c, .slice a2 k2 c2] 47
  obtain ⟨W0, hW0⟩ : ∃ W0, w.alloc (.cells #[.int .i64 9, .string s, .int .i64 e.op, .int .i64 e.n, .string e.s, .string e.q, .slice e.a e.x.length e.c, .slice a k c, .slice a2 k2 c2] 47) = W0 := ⟨_, rfl⟩
  rw [hW0] at T0 S0 HN0
  obtain ⟨z0, z1, z2, z3, z4, z5, z6, z7, z8⟩ := x9 HN0
  have G2 := Lib.hid S0
  have GH0 := Lib.hid HN0
  have G4 := Lib.hid hne
  have GB0 := Lib.hid (hb.trans S0.below)
  have G6 : Hid (l.length + 8 ≤ room) := Lib.hid (by (try simp only [List.length_append, List.length_cons, List.length_nil, Array.length_toList, size_data] at hs); omega)
  have C1 := Lib.hid (lay1 T0 ⟨#[99, 111, 110, 116, 105, 110, 117, 101]⟩ (by have := G6.out; simp only [List.length_append, List.length_cons, List.length_nil, Array.length_toList, size_data, show (⟨#[99, 111, 110, 116, 105, 110, 117, 101]⟩ : ByteArray).size = 8 from rfl]; omega))
  clear h hb hs T0 S0 HN0 hne
  go_enter Tryz.func126, Tryz.ntmps126
  go_wp2_with fail
  refine C1.out.mono ?_
  rintro e1 w1 ⟨rfl, h1, h2⟩
  have K1 := Lib.hid (G2.out.trans h2)
  have KE := Lib.hid h1
  clear h1 h2
  go_wp2_with fail
  go_end0
  exact ⟨rfl, by simpa using KE.out, K1.out⟩
set_option maxHeartbeats 8000000 in
theorem choice_no (op : Int) (s : ByteArray) (e : Ex) (a a2 : Option Addr) (c c2 : Nat) (sb : List St) (k2 : Nat) (hk2 : ¬ 0 < k2) (HX : ElX w0 b o e) (HB1 : ElB w0 b o a c sb) (h : Wt w w0.heap.size b o l) (hb : Below w0.heap.size w0 w) (hs : l.length + ([105, 102, 32] ++ (TX e ++ TB o sb)).length ≤ room) :
    Calls Tryz.prog 134 #[pb b, .agg #[.int .i64 op, .string s, .int .i64 e.op, .int .i64 e.n, .string e.s, .string e.q, .slice e.a e.x.length e.c, .slice a sb.length c, .slice a2 k2 c2]] w (Wrote w0.heap.size b o (l ++ ([105, 102, 32] ++ (TX e ++ TB o sb))) w) := by
  obtain ⟨T0, S0, HN0, hne⟩ := h.box #[.int .i64 op, .string s, .int .i64 e.op, .int .i64 e.n, .string e.s, .string e.q, .slice e.a e.x.length e.c, .slice a sb.length c, .slice a2 k2 c2] 47
  obtain ⟨W0, hW0⟩ : ∃ W0, w.alloc (.cells #[.int .i64 op, .string s, .int .i64 e.op, .int .i64 e.n, .string e.s, .string e.q, .slice e.a e.x.length e.c, .slice a sb.length c, .slice a2 k2 c2] 47) = W0 := ⟨_, rfl⟩
  rw [hW0] at T0 S0 HN0
  obtain ⟨z0, z1, z2, z3, z4, z5, z6, z7, z8⟩ := x9 HN0
  unfold ElX at HX
  rw [exV_eq] at HX
  have HX := Lib.hid HX
  have HB1 := Lib.hid HB1
  have G2 := Lib.hid S0
  have GH0 := Lib.hid HN0
  have G4 := Lib.hid hne
  have GB0 := Lib.hid (hb.trans S0.below)
  have G6 : Hid (l.length + 3 + (TX e).length + (TB o sb).length ≤ room) := Lib.hid (by (try simp only [List.length_append, List.length_cons, List.length_nil, Array.length_toList, size_data] at hs); omega)
  have C1 := Lib.hid (lay1 T0 ⟨#[105, 102, 32]⟩ (by have := G6.out; simp only [List.length_append, List.length_cons, List.length_nil, Array.length_toList, size_data, show (⟨#[105, 102, 32]⟩ : ByteArray).size = 3 from rfl]; omega))
  clear h hb hs T0 S0 HN0 hne
  go_enter Tryz.func134, Tryz.ntmps134
  go_wp2_with fail
  refine C1.out.mono ?_
  rintro e1 w1 ⟨rfl, h1, h2⟩
  have K1 := Lib.hid (G2.out.trans h2)
  have GH1 := Lib.hid (h2.keep _ _ _ (by decide) G4.out GH0.out)
  obtain ⟨z0, z1, z2, z3, z4, z5, z6, z7, z8⟩ := x9 GH1.out
  have GB1 := Lib.hid (GB0.out.trans h2.below)
  have C2 := Lib.hid (HX.out _ _ h1 GB1.out (by have := G6.out; (try simp only [List.length_append, List.length_cons, List.length_nil, Array.length_toList, size_data]); omega))
  clear h1 h2
  go_wp2_with fail
  refine C2.out.mono ?_
  rintro e1 w2 ⟨rfl, h1, h2⟩
  have K2 := Lib.hid (K1.out.trans h2)
  have GH2 := Lib.hid (h2.keep _ _ _ (by decide) G4.out GH1.out)
  obtain ⟨z0, z1, z2, z3, z4, z5, z6, z7, z8⟩ := x9 GH2.out
  have GB2 := Lib.hid (GB1.out.trans h2.below)
  have C3 := Lib.hid (HB1.out _ _ h1 GB2.out (by have := G6.out; (try simp only [List.length_append, List.length_cons, List.length_nil, Array.length_toList, size_data]); omega))
  clear h1 h2
  go_wp2_with fail
  refine C3.out.mono ?_
  rintro e1 w3 ⟨rfl, h1, h2⟩
  have K3 := Lib.hid (K2.out.trans h2)
  have GH3 := Lib.hid (h2.keep _ _ _ (by decide) G4.out GH2.out)
  obtain ⟨z0, z1, z2, z3, z4, z5, z6, z7, z8⟩ := x9 GH3.out
  have KE := Lib.hid h1
  clear h1 h2
  go_wp2_with fail
  go_end0
  exact ⟨rfl, by simpa using KE.out, K3.out⟩
set_option maxHeartbeats 8000000 in
theorem choice_else (op : Int) (s : ByteArray) (e : Ex) (a a2 : Option Addr) (c c2 : Nat) (sb : List St) (sb2 : List St) (hk2 : 0 < sb2.length) (HX : ElX w0 b o e) (HB1 : ElB w0 b o a c sb) (HB2 : ElB w0 b o a2 c2 sb2) (h : Wt w w0.heap.size b o l) (hb : Below w0.heap.size w0 w) (hs : l.length + ([105, 102, 32] ++ (TX e ++ (TB o sb ++ ([32, 101, 108, 115, 101] ++ TB o sb2)))).length ≤ room) :
    Calls Tryz.prog 134 #[pb b, .agg #[.int .i64 op, .string s, .int .i64 e.op, .int .i64 e.n, .string e.s, .string e.q, .slice e.a e.x.length e.c, .slice a sb.length c, .slice a2 sb2.length c2]] w (Wrote w0.heap.size b o (l ++ ([105, 102, 32] ++ (TX e ++ (TB o sb ++ ([32, 101, 108, 115, 101] ++ TB o sb2))))) w) := by
  obtain ⟨T0, S0, HN0, hne⟩ := h.box #[.int .i64 op, .string s, .int .i64 e.op, .int .i64 e.n, .string e.s, .string e.q, .slice e.a e.x.length e.c, .slice a sb.length c, .slice a2 sb2.length c2] 47
  obtain ⟨W0, hW0⟩ : ∃ W0, w.alloc (.cells #[.int .i64 op, .string s, .int .i64 e.op, .int .i64 e.n, .string e.s, .string e.q, .slice e.a e.x.length e.c, .slice a sb.length c, .slice a2 sb2.length c2] 47) = W0 := ⟨_, rfl⟩
  rw [hW0] at T0 S0 HN0
  obtain ⟨z0, z1, z2, z3, z4, z5, z6, z7, z8⟩ := x9 HN0
  unfold ElX at HX
  rw [exV_eq] at HX
  have HX := Lib.hid HX
  have HB1 := Lib.hid HB1
  have HB2 := Lib.hid HB2
  have G2 := Lib.hid S0
  have GH0 := Lib.hid HN0
  have G4 := Lib.hid hne
  have GB0 := Lib.hid (hb.trans S0.below)
  have G6 : Hid (l.length + 3 + (TX e).length + (TB o sb).length + 5 + (TB o sb2).length ≤ room) := Lib.hid (by (try simp only [List.length_append, List.length_cons, List.length_nil, Array.length_toList, size_data] at hs); omega)
  have C1 := Lib.hid (lay1 T0 ⟨#[105, 102, 32]⟩ (by have := G6.out; simp only [List.length_append, List.length_cons, List.length_nil, Array.length_toList, size_data, show (⟨#[105, 102, 32]⟩ : ByteArray).size = 3 from rfl]; omega))
  clear h hb hs T0 S0 HN0 hne
  go_enter Tryz.func134, Tryz.ntmps134
  go_wp2_with fail
  refine C1.out.mono ?_
  rintro e1 w1 ⟨rfl, h1, h2⟩
  have K1 := Lib.hid (G2.out.trans h2)
  have GH1 := Lib.hid (h2.keep _ _ _ (by decide) G4.out GH0.out)
  obtain ⟨z0, z1, z2, z3, z4, z5, z6, z7, z8⟩ := x9 GH1.out
  have GB1 := Lib.hid (GB0.out.trans h2.below)
  have C2 := Lib.hid (HX.out _ _ h1 GB1.out (by have := G6.out; (try simp only [List.length_append, List.length_cons, List.length_nil, Array.length_toList, size_data]); omega))
  clear h1 h2
  go_wp2_with fail
  refine C2.out.mono ?_
  rintro e1 w2 ⟨rfl, h1, h2⟩
  have K2 := Lib.hid (K1.out.trans h2)
  have GH2 := Lib.hid (h2.keep _ _ _ (by decide) G4.out GH1.out)
  obtain ⟨z0, z1, z2, z3, z4, z5, z6, z7, z8⟩ := x9 GH2.out
  have GB2 := Lib.hid (GB1.out.trans h2.below)
  have C3 := Lib.hid (HB1.out _ _ h1 GB2.out (by have := G6.out; (try simp only [List.length_append, List.length_cons, List.length_nil, Array.length_toList, size_data]); omega))
  clear h1 h2
  go_wp2_with fail
  refine C3.out.mono ?_
  rintro e1 w3 ⟨rfl, h1, h2⟩
  have K3 := Lib.hid (K2.out.trans h2)
  have GH3 := Lib.hid (h2.keep _ _ _ (by decide) G4.out GH2.out)
  obtain ⟨z0, z1, z2, z3, z4, z5, z6, z7, z8⟩ := x9 GH3.out
  have GB3 := Lib.hid (GB2.out.trans h2.below)
  have C4 := Lib.hid (lay1 h1 ⟨#[32, 101, 108, 115, 101]⟩ (by have := G6.out; simp only [List.length_append, List.length_cons, List.length_nil, Array.length_toList, size_data, show (⟨#[32, 101, 108, 115, 101]⟩ : ByteArray).size = 5 from rfl]; omega))
  clear h1 h2
  go_wp2_with fail
  refine C4.out.mono ?_
  rintro e1 w4 ⟨rfl, h1, h2⟩
  have K4 := Lib.hid (K3.out.trans h2)
  have GH4 := Lib.hid (h2.keep _ _ _ (by decide) G4.out GH3.out)
  obtain ⟨z0, z1, z2, z3, z4, z5, z6, z7, z8⟩ := x9 GH4.out
  have GB4 := Lib.hid (GB3.out.trans h2.below)
  have C5 := Lib.hid (HB2.out _ _ h1 GB4.out (by have := G6.out; (try simp only [List.length_append, List.length_cons, List.length_nil, Array.length_toList, size_data]); omega))
  clear h1 h2
  go_wp2_with fail
  refine C5.out.mono ?_
  rintro e1 w5 ⟨rfl, h1, h2⟩
  have K5 := Lib.hid (K4.out.trans h2)
  have KE := Lib.hid h1
  clear h1 h2
  go_wp2_with fail
  go_end0
  exact ⟨rfl, by simpa using KE.out, K5.out⟩
set_option maxHeartbeats 8000000 in
theorem back_no (op : Int) (s : ByteArray) (e : Ex) (a a2 : Option Addr) (c c2 : Nat) (k k2 : Nat) (he : (e.op != 0) = false)  (h : Wt w w0.heap.size b o l) (hb : Below w0.heap.size w0 w) (hs : l.length + ([114, 101, 116, 117, 114, 110]).length ≤ room) :
    Calls Tryz.prog 135 #[pb b, .agg #[.int .i64 op, .string s, .int .i64 e.op, .int .i64 e.n, .string e.s, .string e.q, .slice e.a e.x.length e.c, .slice a k c, .slice a2 k2 c2]] w (Wrote w0.heap.size b o (l ++ ([114, 101, 116, 117, 114, 110])) w) := by
  obtain ⟨T0, S0, HN0, hne⟩ := h.box #[.int .i64 op, .string s, .int .i64 e.op, .int .i64 e.n, .string e.s, .string e.q, .slice e.a e.x.length e.c, .slice a k c, .slice a2 k2 c2] 47
  obtain ⟨W0, hW0⟩ : ∃ W0, w.alloc (.cells #[.int .i64 op, .string s, .int .i64 e.op, .int .i64 e.n, .string e.s, .string e.q, .slice e.a e.x.length e.c, .slice a k c, .slice a2 k2 c2] 47) = W0 := ⟨_, rfl⟩
  rw [hW0] at T0 S0 HN0
  obtain ⟨z0, z1, z2, z3, z4, z5, z6, z7, z8⟩ := x9 HN0
  have G2 := Lib.hid S0
  have GH0 := Lib.hid HN0
  have G4 := Lib.hid hne
  have GB0 := Lib.hid (hb.trans S0.below)
  have G6 : Hid (l.length + 6 ≤ room) := Lib.hid (by (try simp only [List.length_append, List.length_cons, List.length_nil, Array.length_toList, size_data] at hs); omega)
  have C1 := Lib.hid (lay1 T0 ⟨#[114, 101, 116, 117, 114, 110]⟩ (by have := G6.out; simp only [List.length_append, List.length_cons, List.length_nil, Array.length_toList, size_data, show (⟨#[114, 101, 116, 117, 114, 110]⟩ : ByteArray).size = 6 from rfl]; omega))
  clear h hb hs T0 S0 HN0 hne
  go_enter Tryz.func135, Tryz.ntmps135
  go_wp2_with fail
  refine C1.out.mono ?_
  rintro e1 w1 ⟨rfl, h1, h2⟩
  have K1 := Lib.hid (G2.out.trans h2)
  have GH1 := Lib.hid (h2.keep _ _ _ (by decide) G4.out GH0.out)
  obtain ⟨z0, z1, z2, z3, z4, z5, z6, z7, z8⟩ := x9 GH1.out
  have KE := Lib.hid h1
  clear h1 h2
  go_wp2_with fail
  go_end0
  exact ⟨rfl, by simpa using KE.out, K1.out⟩
set_option maxHeartbeats 8000000 in
theorem back_expr (op : Int) (s : ByteArray) (e : Ex) (a a2 : Option Addr) (c c2 : Nat) (k k2 : Nat) (he : (e.op != 0) = true) (HX : ElX w0 b o e) (h : Wt w w0.heap.size b o l) (hb : Below w0.heap.size w0 w) (hs : l.length + ([114, 101, 116, 117, 114, 110] ++ ([32] ++ TX e)).length ≤ room) :
    Calls Tryz.prog 135 #[pb b, .agg #[.int .i64 op, .string s, .int .i64 e.op, .int .i64 e.n, .string e.s, .string e.q, .slice e.a e.x.length e.c, .slice a k c, .slice a2 k2 c2]] w (Wrote w0.heap.size b o (l ++ ([114, 101, 116, 117, 114, 110] ++ ([32] ++ TX e))) w) := by
  obtain ⟨T0, S0, HN0, hne⟩ := h.box #[.int .i64 op, .string s, .int .i64 e.op, .int .i64 e.n, .string e.s, .string e.q, .slice e.a e.x.length e.c, .slice a k c, .slice a2 k2 c2] 47
  obtain ⟨W0, hW0⟩ : ∃ W0, w.alloc (.cells #[.int .i64 op, .string s, .int .i64 e.op, .int .i64 e.n, .string e.s, .string e.q, .slice e.a e.x.length e.c, .slice a k c, .slice a2 k2 c2] 47) = W0 := ⟨_, rfl⟩
  rw [hW0] at T0 S0 HN0
  obtain ⟨z0, z1, z2, z3, z4, z5, z6, z7, z8⟩ := x9 HN0
  unfold ElX at HX
  rw [exV_eq] at HX
  have HX := Lib.hid HX
  have G2 := Lib.hid S0
  have GH0 := Lib.hid HN0
  have G4 := Lib.hid hne
  have GB0 := Lib.hid (hb.trans S0.below)
  have G6 : Hid (l.length + 6 + 1 + (TX e).length ≤ room) := Lib.hid (by (try simp only [List.length_append, List.length_cons, List.length_nil, Array.length_toList, size_data] at hs); omega)
  have C1 := Lib.hid (lay1 T0 ⟨#[114, 101, 116, 117, 114, 110]⟩ (by have := G6.out; simp only [List.length_append, List.length_cons, List.length_nil, Array.length_toList, size_data, show (⟨#[114, 101, 116, 117, 114, 110]⟩ : ByteArray).size = 6 from rfl]; omega))
  clear h hb hs T0 S0 HN0 hne
  go_enter Tryz.func135, Tryz.ntmps135
  go_wp2_with fail
  refine C1.out.mono ?_
  rintro e1 w1 ⟨rfl, h1, h2⟩
  have K1 := Lib.hid (G2.out.trans h2)
  have GH1 := Lib.hid (h2.keep _ _ _ (by decide) G4.out GH0.out)
  obtain ⟨z0, z1, z2, z3, z4, z5, z6, z7, z8⟩ := x9 GH1.out
  have GB1 := Lib.hid (GB0.out.trans h2.below)
  have C2 := Lib.hid (lay1 h1 ⟨#[32]⟩ (by have := G6.out; simp only [List.length_append, List.length_cons, List.length_nil, Array.length_toList, size_data, show (⟨#[32]⟩ : ByteArray).size = 1 from rfl]; omega))
  clear h1 h2
  go_wp2_with fail
  refine C2.out.mono ?_
  rintro e1 w2 ⟨rfl, h1, h2⟩
  have K2 := Lib.hid (K1.out.trans h2)
  have GH2 := Lib.hid (h2.keep _ _ _ (by decide) G4.out GH1.out)
  obtain ⟨z0, z1, z2, z3, z4, z5, z6, z7, z8⟩ := x9 GH2.out
  have GB2 := Lib.hid (GB1.out.trans h2.below)
  have C3 := Lib.hid (HX.out _ _ h1 GB2.out (by have := G6.out; (try simp only [List.length_append, List.length_cons, List.length_nil, Array.length_toList, size_data]); omega))
  clear h1 h2
  go_wp2_with fail
  refine C3.out.mono ?_
  rintro e1 w3 ⟨rfl, h1, h2⟩
  have K3 := Lib.hid (K2.out.trans h2)
  have KE := Lib.hid h1
  clear h1 h2
  go_wp2_with fail
  go_end0
  exact ⟨rfl, by simpa using KE.out, K3.out⟩
set_option maxHeartbeats 8000000 in
theorem st_if (s : ByteArray) (e : Ex) (a a2 : Option Addr) (c c2 k k2 : Nat) (z : List UInt8) (h : Wt w w0.heap.size b o l)
    (HC : ∀ u, Wt u w0.heap.size b o l → Stp w0.heap.size b w u → Calls Tryz.prog 134 #[pb b, .agg #[.int .i64 3, .string s, .int .i64 e.op, .int .i64 e.n, .string e.s, .string e.q, .slice e.a e.x.length e.c, .slice a k c, .slice a2 k2 c2]] u (Wrote w0.heap.size b o (l ++ z) u)) :
    Calls Tryz.prog 126 #[pb b, .agg #[.int .i64 3, .string s, .int .i64 e.op, .int .i64 e.n, .string e.s, .string e.q, .slice e.a e.x.length e.c, .slice a k c, .slice a2 k2 c2]] w (Wrote w0.heap.size b o (l ++ z) w) := by
  obtain ⟨T0, S0, HN0, hne⟩ := h.box #[.int .i64 3, .string s, .int .i64 e.op, .int .i64 e.n, .string e.s, .string e.q, .slice e.a e.x.length e.c, .slice a k c, .slice a2 k2 c2] 47
  obtain ⟨W0, hW0⟩ : ∃ W0, w.alloc (.cells #[.int .i64 3, .string s, .int .i64 e.op, .int .i64 e.n, .string e.s, .string e.q, .slice e.a e.x.length e.c, .slice a k c, .slice a2 k2 c2] 47) = W0 := ⟨_, rfl⟩
  rw [hW0] at T0 S0 HN0
  obtain ⟨z0, z1, z2, z3, z4, z5, z6, z7, z8⟩ := x9 HN0
  have C1 := Lib.hid (HC W0 T0 S0)
  have G2 := Lib.hid S0
  clear h T0 S0 HN0 hne HC
  go_enter Tryz.func126, Tryz.ntmps126
  go_wp2_with fail
  refine C1.out.mono ?_
  rintro e1 w1 ⟨rfl, h1, h2⟩
  have K1 := Lib.hid (G2.out.trans h2)
  have KE := Lib.hid h1
  clear h1 h2
  go_wp2_with fail
  go_end0
  exact ⟨rfl, KE.out, K1.out⟩
set_option maxHeartbeats 8000000 in
theorem st_ret (s : ByteArray) (e : Ex) (a a2 : Option Addr) (c c2 k k2 : Nat) (z : List UInt8) (h : Wt w w0.heap.size b o l)
    (HC : ∀ u, Wt u w0.heap.size b o l → Stp w0.heap.size b w u → Calls Tryz.prog 135 #[pb b, .agg #[.int .i64 5, .string s, .int .i64 e.op, .int .i64 e.n, .string e.s, .string e.q, .slice e.a e.x.length e.c, .slice a k c, .slice a2 k2 c2]] u (Wrote w0.heap.size b o (l ++ z) u)) :
    Calls Tryz.prog 126 #[pb b, .agg #[.int .i64 5, .string s, .int .i64 e.op, .int .i64 e.n, .string e.s, .string e.q, .slice e.a e.x.length e.c, .slice a k c, .slice a2 k2 c2]] w (Wrote w0.heap.size b o (l ++ z) w) := by
  obtain ⟨T0, S0, HN0, hne⟩ := h.box #[.int .i64 5, .string s, .int .i64 e.op, .int .i64 e.n, .string e.s, .string e.q, .slice e.a e.x.length e.c, .slice a k c, .slice a2 k2 c2] 47
  obtain ⟨W0, hW0⟩ : ∃ W0, w.alloc (.cells #[.int .i64 5, .string s, .int .i64 e.op, .int .i64 e.n, .string e.s, .string e.q, .slice e.a e.x.length e.c, .slice a k c, .slice a2 k2 c2] 47) = W0 := ⟨_, rfl⟩
  rw [hW0] at T0 S0 HN0
  obtain ⟨z0, z1, z2, z3, z4, z5, z6, z7, z8⟩ := x9 HN0
  have C1 := Lib.hid (HC W0 T0 S0)
  have G2 := Lib.hid S0
  clear h T0 S0 HN0 hne HC
  go_enter Tryz.func126, Tryz.ntmps126
  go_wp2_with fail
  refine C1.out.mono ?_
  rintro e1 w1 ⟨rfl, h1, h2⟩
  have K1 := Lib.hid (G2.out.trans h2)
  have KE := Lib.hid h1
  clear h1 h2
  go_wp2_with fail
  go_end0
  exact ⟨rfl, KE.out, K1.out⟩
end
end Go.Proofs.YtmihlmlojmdhjaaGreatDoor.Wr
/- The program's writer writes any right statement, any block. Conditions: it lies in memory below the writer; sizes. -/
namespace Go.Proofs.YtmihlmlojmdhjaaGreatDoor.Wr
open Go.RowKit Tre
open Lex (Ch textC textC_cons textC_app textC_nil chT)
open Prg (cw bl sg nm kw nu chX chS blockC opOf LoX OkX LoS OkS)
open Prs (nilT)
set_option maxRecDepth 100000
section
variable (o : Nat) (s : ByteArray) (e : Ex) (a a2 : Option Addr) (c c2 : Nat) (sb sb2 : List St)
theorem TS_def : TS o (.mk 1 s e a c sb a2 c2 sb2) = s.data.toList ++ ([32, 58, 61, 32] ++ TX e) := by
  unfold TS TX
  rw [coreS_eq]
  simp only [St.op, St.s, St.e, St.b, St.b2]
  rw [Prg.chS_def, text_w, text_bl, text_w, text_bl, shown_nm, shown_sg]
  rfl
theorem TS_set : TS o (.mk 2 s e a c sb a2 c2 sb2) = s.data.toList ++ ([32, 61, 32] ++ TX e) := by
  unfold TS TX
  rw [coreS_eq]
  simp only [St.op, St.s, St.e, St.b, St.b2]
  rw [Prg.chS_set, text_w, text_bl, text_w, text_bl, shown_nm, shown_sg]
  rfl
theorem TS_for : TS o (.mk 4 s e a c sb a2 c2 sb2) = [102, 111, 114, 32] ++ (TX e ++ TB o sb) := by
  unfold TS TX
  rw [coreS_eq]
  simp only [St.op, St.s, St.e, St.b, St.b2]
  rw [Prg.chS_for, text_w, text_bl, textC_app, text_bl, shown_kw, text_block]
  rfl
theorem TS_print : TS o (.mk 6 s e a c sb a2 c2 sb2) = [112, 114, 105, 110, 116, 40] ++ (TX e ++ [41]) := by
  unfold TS TX
  rw [coreS_eq]
  simp only [St.op, St.s, St.e, St.b, St.b2]
  rw [Prg.chS_prt, text_w, text_w, textC_app, text_w, textC_nil, shown_kw, shown_sg, shown_sg]
  rfl
theorem TS_call : TS o (.mk 7 s e a c sb a2 c2 sb2) = TX e := by
  unfold TS TX
  rw [coreS_eq]
  simp only [St.op, St.s, St.e, St.b, St.b2]
  rw [Prg.chS_call]
theorem TS_break : TS o (.mk 8 s e a c sb a2 c2 sb2) = [98, 114, 101, 97, 107] := by
  unfold TS
  rw [coreS_eq]
  simp only [St.op, St.s, St.e, St.b, St.b2]
  rw [Prg.chS_brk, text_w, textC_nil, shown_kw]
  rfl
theorem TS_next : TS o (.mk 9 s e a c sb a2 c2 sb2) = [99, 111, 110, 116, 105, 110, 117, 101] := by
  unfold TS
  rw [coreS_eq]
  simp only [St.op, St.s, St.e, St.b, St.b2]
  rw [Prg.chS_nxt, text_w, textC_nil, shown_kw]
  rfl
theorem TS_ret_no (h : e.op = 0) : TS o (.mk 5 s e a c sb a2 c2 sb2) = [114, 101, 116, 117, 114, 110] := by
  unfold TS
  rw [coreS_eq]
  simp only [St.op, St.s, St.e, St.b, St.b2]
  rw [Prg.chS_ret, if_pos (by rw [op_core]; exact h), text_w, textC_nil, shown_kw]
  rfl
theorem TS_ret (h : e.op ≠ 0) : TS o (.mk 5 s e a c sb a2 c2 sb2) = [114, 101, 116, 117, 114, 110] ++ ([32] ++ TX e) := by
  unfold TS TX
  rw [coreS_eq]
  simp only [St.op, St.s, St.e, St.b, St.b2]
  rw [Prg.chS_ret, if_neg (by rw [op_core]; exact h), text_w, text_bl, shown_kw]
  rfl
theorem TS_if (h : sb2 = []) : TS o (.mk 3 s e a c sb a2 c2 sb2) = [105, 102, 32] ++ (TX e ++ TB o sb) := by
  subst h
  unfold TS TX
  rw [coreS_eq]
  simp only [St.op, St.s, St.e, St.b, St.b2]
  rw [Prg.chS_if, text_w, text_bl, textC_app, text_bl, textC_app, shown_kw]
  simp only [List.map_nil, List.isEmpty_nil, if_true, textC_nil, List.append_nil]
  rw [text_block]
  rfl
theorem TS_else (h : sb2 ≠ []) : TS o (.mk 3 s e a c sb a2 c2 sb2) = [105, 102, 32] ++ (TX e ++ (TB o sb ++ ([32, 101, 108, 115, 101] ++ TB o sb2))) := by
  unfold TS TX
  rw [coreS_eq]
  simp only [St.op, St.s, St.e, St.b, St.b2]
  rw [Prg.chS_if, if_neg (by simpa using h), text_w, text_bl, textC_app, text_bl, textC_app, shown_kw, text_bl, text_w, text_bl, text_block, shown_kw, ← text_block o sb]
  rfl
end
theorem ok_opT {t : Tx} (h : OkX t) : opOf t ≠ 0 := by
  cases h with
  | num | truth | name | call => simp [opOf]
  | one op x h hx => simp only [opOf]; omega
  | two op x y h h2 hx hy => simp only [opOf]; omega
theorem ok_op0 {e : Ex} (h : OkX (core e)) : (e.op != 0) = true := by
  have e1 := ok_opT h
  rw [op_core] at e1
  simpa using e1
theorem los_part {op : Int} {s : List UInt8} {e : Tx} {x y : List Ts} (h : LoS (.mk op s e x y)) : (OkX e → LoX e) ∧ (∀ z ∈ x, LoS z) ∧ ∀ z ∈ y, LoS z := by
  cases h with
  | mk _ _ _ _ _ he hb hb2 => exact ⟨he, hb, hb2⟩
theorem ok_ne {e : Ex} (h : OkX (core e)) : e.op ≠ 0 := by have := ok_op0 h; simpa using this
theorem elS_upto {w0 : World} (hG : Gd w0) (b : Nat) : ∀ (m : Nat) (s : St) (o : Nat), sizeS s ≤ m → o + sizeS s ≤ 1000000 → StIn w0 s → OkS (coreS s) → LoS (coreS s) → ElS w0 b o s
  | 0, s, o, h, _, _, _, _ => by rw [sizeS_eq] at h; omega
  | m + 1, s, o, hm, ho, hin, hok, hlo => by
    intro w l h hb hs
    have hpart : ∀ y, y ∈ s.b ∨ y ∈ s.b2 → OkS (coreS y) → LoS (coreS y) → ElS w0 b (o + 1) y := fun y hy h1 h2 => elS_upto hG b m y (o + 1) (by have := sizeS_part hy; omega) (by have := sizeS_part hy; omega) (hin.part hy) h1 h2
    have hlen := hin.nd.len
    have hlen2 := hin.nd.len2
    have hrow := hin.nd.row
    have hrow2 := hin.nd.row2
    have hein := hin.nd.e
    obtain ⟨op, s, e, a, c, sb, a2, c2, sb2⟩ := s
    simp only [St.b, St.b2, St.a, St.a2, St.e] at hpart hlen hlen2 hrow hrow2 hein
    rw [stV_eq]
    simp only [St.op, St.s, St.e, St.a, St.c, St.b, St.a2, St.c2, St.b2]
    rw [coreS_eq] at hok hlo
    simp only [St.op, St.s, St.e, St.b, St.b2] at hok hlo
    obtain ⟨hle, hlb, hlb2⟩ := los_part hlo
    have HE : OkX (core e) → ElX w0 b o e := fun h => elX_any hG b o hein h (hle h)
    have HB1 : (∀ y ∈ sb.map coreS, OkS y) → ElB w0 b o a c sb := fun h => block_any sb a c (by omega) hrow hlen fun y hy => hpart y (.inl hy) (h _ (List.mem_map_of_mem hy)) (hlb _ (List.mem_map_of_mem hy))
    have HB2 : (∀ y ∈ sb2.map coreS, OkS y) → ElB w0 b o a2 c2 sb2 := fun h => block_any sb2 a2 c2 (by omega) hrow2 hlen2 fun y hy => hpart y (.inr hy) (h _ (List.mem_map_of_mem hy)) (hlb2 _ (List.mem_map_of_mem hy))
    generalize hx : core e = x at hok
    generalize hsl : s.data.toList = sl at hok
    generalize hb1 : sb.map coreS = rb at hok
    generalize hb2 : sb2.map coreS = rb2 at hok
    cases hok with
    | def_ _ _ h0 he =>
      rw [TS_def] at hs ⊢
      exact st_def s e a a2 c c2 _ _ (HE (by rw [hx]; exact he)) h hb hs
    | set_ _ _ h0 he =>
      rw [TS_set] at hs ⊢
      exact st_set s e a a2 c c2 _ _ (HE (by rw [hx]; exact he)) h hb hs
    | if_ _ _ _ he h1 h2 =>
      by_cases hn : sb2 = []
      · rw [TS_if o s e a a2 c c2 sb sb2 hn] at hs ⊢
        refine st_if s e a a2 c c2 _ _ _ h fun u hu hst => ?_
        exact choice_no 3 s e a a2 c c2 sb _ (by rw [hn]; simp) (HE (by rw [hx]; exact he)) (HB1 (by rw [hb1]; exact h1)) hu (hb.trans hst.below) hs
      · rw [TS_else o s e a a2 c c2 sb sb2 hn] at hs ⊢
        refine st_if s e a a2 c c2 _ _ _ h fun u hu hst => ?_
        exact choice_else 3 s e a a2 c c2 sb sb2 (by cases sb2 with | nil => exact absurd rfl hn | cons => simp) (HE (by rw [hx]; exact he)) (HB1 (by rw [hb1]; exact h1)) (HB2 (by rw [hb2]; exact h2)) hu (hb.trans hst.below) hs
    | for_ _ _ he h1 =>
      rw [TS_for] at hs ⊢
      exact st_for s e a a2 c c2 sb _ (HE (by rw [hx]; exact he)) (HB1 (by rw [hb1]; exact h1)) h hb hs
    | ret _ he =>
      have hxe : OkX (core e) := by rw [hx]; exact he
      rw [TS_ret _ _ _ _ _ _ _ _ _ (ok_ne hxe)] at hs ⊢
      refine st_ret s e a a2 c c2 _ _ _ h fun u hu hst => ?_
      exact back_expr 5 s e a a2 c c2 _ _ (ok_op0 hxe) (HE hxe) hu (hb.trans hst.below) hs
    | retn =>
      have e0 : e.op = 0 := by rw [← op_core, hx]; rfl
      rw [TS_ret_no _ _ _ _ _ _ _ _ _ e0] at hs ⊢
      refine st_ret s e a a2 c c2 _ _ _ h fun u hu hst => ?_
      exact back_no 5 s e a a2 c c2 _ _ (by rw [e0]; rfl) hu (hb.trans hst.below) hs
    | print _ he =>
      rw [TS_print] at hs ⊢
      exact st_print s e a a2 c c2 _ _ (HE (by rw [hx]; exact he)) h hb hs
    | call _ _ _ he =>
      rw [TS_call] at hs ⊢
      exact st_call s e a a2 c c2 _ _ (HE (by rw [hx]; exact he)) h hb hs
    | brk =>
      rw [TS_break] at hs ⊢
      exact st_break s e a a2 c c2 _ _ h hb hs
    | nxt =>
      rw [TS_next] at hs ⊢
      exact st_next s e a a2 c c2 _ _ h hb hs
/-- A right block is written as its text. -/
theorem elB_any {w0 : World} (hG : Gd w0) (b o : Nat) (A : Option Addr) (c : Nat) (sts : List St) (ho : o + sizeB sts + 1 ≤ 1000000) (hrow : Row 9 stC w0 A sts) (hl : sts.length ≤ most) (hin : ∀ s ∈ sts, StIn w0 s) (hok : ∀ s ∈ sts, OkS (coreS s)) (hlo : ∀ s ∈ sts, LoS (coreS s)) : ElB w0 b o A c sts :=
  block_any sts A c (by omega) hrow hl fun s hs => elS_upto hG b _ s (o + 1) (Nat.le_refl _) (by have := sizeS_mem hs; omega) (hin s hs) (hok s hs) (hlo s hs)
end Go.Proofs.YtmihlmlojmdhjaaGreatDoor.Wr
