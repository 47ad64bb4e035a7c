/-
  Texts DIter, DWait, in one file. What each proves, and its conditions, stand at its head below.
-/
import Derived.Test.YtdjhlhellkajfaaGreatY18
import Derived.Test.YtdjhlhellkajfaaGreatY25
import Derived.RangeFuncBound
set_option maxRecDepth 100000
set_option maxHeartbeats 400000
open Go.Lib (hid)
namespace Go.Proofs.YtdjhlhellkajfaaGreat.Disk
open Go.RowKit Go.Maps Go.Sort Go.Shelf
theorem sorts(m:Nat):AnyZI.SortsIn Tryz.prog Tryz.sortedA_ren Fence.wide m:=
 ⟨fun blk off cap ss W hH hblk hsz=>callsIn_wide.2 (AnyM.slices_Sort_int Tryz.sortA blk off cap ss W hH hblk hsz),
 fun p cap W=>callsIn_wide.2 (AnyM.slices_Sort_int_none Tryz.sortA p cap W)⟩
theorem keys_any(mb:Option Nat)(W:World):
  Calls Tryz.prog 114 #[.map mb] W fun e w'=>e= .returned (.func (.func 140) #[] #[.pointer (some ⟨W.heap.size,0,none⟩)])∧w'=W.alloc (.cells #[.map mb] 99):=
 (callsIn_wide (n:=5)).1 (AnyZI.keys_in Tryz.keysA Fence.wide 5 trivial rfl mb W)
theorem sorted_keys{H:Type}(b nn:Nat)(D0:DataW H)(R:Value→Option (DataW H×List MemPlace))(w:World)(hown:w.ownsMap Tryz.prog 3 R b nn D0)(hmax:Maps.size D0≤maxLen)(hbytes:Maps.size D0 * 8≤140737488355328):
  Calls Tryz.prog 113 #[.func (.func 140) #[] #[.pointer (some ⟨w.heap.size,0,none⟩)]] (w.alloc (.cells #[.map (some b)] 99)) fun e w'=>∃(v:Value) (ss:List Int),e= .returned v∧ss.Perm (intKeys D0)∧
   w'.ownsRow (w.alloc (.cells #[.map (some b)] 99)).heap.size 3 1 v ss.length ((ss.mergeSort (fun x y=>decide (x≤y))).map encZ)∧(v= .slice none 0 0↔ss=[])∧Below (w.alloc (.cells #[.map (some b)] 99)).heap.size (w.alloc (.cells #[.map (some b)] 99)) w':=by
 refine(callsIn_wide (n:=5)).1 ?_;have hbl:=hown.lt;have hseq:SeqGives Fence.wide 2 Tryz.prog 140 #[.pointer (some ⟨w.heap.size,0,none⟩)] encZ (fun ss=>ss.Perm (intKeys D0)) (Maps.size D0) (w.alloc (.cells #[.map (some b)] 99)):=
  AnyZI.keys_gives (ρ:=Tryz.keysA_ren) {Tryz.keysA with} Fence.wide _ trivial rfl (by omega) w.heap.size b nn D0 _ (by simp) (by simp) (by
   obtain⟨es,clock,hb,Ft,hs,hD⟩:=hown;exact⟨es,clock,(Below.heap_alloc _ _ b hbl).trans hb,Ft,hs,hD⟩)
 exact AnyZI.sorted_in Tryz.sortedA Fence.wide 5 trivial trivial trivial trivial rfl (by omega) (sorts _) (enters_of Tryz.func139 (by kernel_rfl) rfl) 140 #[.pointer (some ⟨w.heap.size,0,none⟩)] trivial (enters_of Tryz.func140 (by kernel_rfl) rfl) _ _ hmax hbytes _ hseq
end Go.Proofs.YtdjhlhellkajfaaGreat.Disk
namespace Go.Proofs.YtdjhlhellkajfaaGreat.Disk
open Go.RowKit Go.Maps
def Listed (w:World) (ks:List Nat) (e:Ending) (w':World):Prop:=
 ∃v,e= .returned v∧w'.ownsRow w.heap.size 3 1 v ks.length (ks.map fun k:Nat=>encZ (k:Int))∧Below w.heap.size w w'
theorem owns_lower{w:World}{base base' size:Nat}{e:TypeId}{v:Value}{n:Nat}{xs:List Value}(h:w.ownsRow base e size v n xs)(hb:base'≤base):w.ownsRow base' e size v n xs:=by
 refine⟨h.1,?_⟩;rcases h.2 with h0|⟨g,cap,cur,hv,hg,r⟩
 ·exact .inl h0
 exact .inr ⟨g,cap,cur,hv,by omega,r⟩
theorem waiting_disk(w:World)(g gs gm:Nat)(d:Dsk)(h:Dk w g gs gm d):Calls Tryz.prog 72 #[ptr g] w (Listed w (waitsOf d.n d.waits)):=by
 obtain⟨nn,D,hown,hnn,hT⟩:=h.mp;have hti:=hown.tidy key3;have hin:=ints_of hown;have hsz:=hT.size hti hin;have h3:=h.ok.2.1;have HK:=fun W=>hid (keys_any (some gm) W);have HS:=hid (sorted_keys gm nn D R0 w hown (by unfold maxLen;omega) (by omega));have hsort:∀ss:List Int,ss.Perm (intKeys D)→ss.mergeSort (fun x y=>decide (x≤y))=(waitsOf d.n d.waits).map fun i:Nat=>(i:Int):=fun ss hs=>hT.sorted hti hin hs;have hlen:∀ss:List Int,ss.Perm (intKeys D)→ss.length=(waitsOf d.n d.waits).length:=fun ss hs=>by
  have h1:=hs.length_eq;have h2:=(hT.keys hti hin).length_eq;rw[List.length_map] at h2;omega
 have HSO:=hid (And.intro hsort hlen);obtain⟨z,hz⟩:=h.six;have c1:=hz.c1;clear hz h hown hnn hT hti hin hsz h3 hsort hlen;generalize waitsOf d.n d.waits=ks at *;unfold ptr;go_enter Tryz.func72,Tryz.ntmps72;go_wp2_with (first
  |(go_at_call 114;refine(HK _).out.mono ?_;rintro e w1 ⟨rfl,rfl⟩)
  |(go_at_call 113;refine HS.out.mono ?_;rintro e w2 ⟨v,ss,rfl,hp,hrow,hnil,hb⟩))
 go_ret;refine⟨v,rfl,?_,((Below.refl _ w).alloc (Nat.le_refl _) _).trans (hb.mono (by simp))⟩;have h1:=HSO.out.1 ss hp;have h2:=HSO.out.2 ss hp;rw[h1,h2,List.map_map] at hrow;exact owns_lower hrow (by simp)
end Go.Proofs.YtdjhlhellkajfaaGreat.Disk
