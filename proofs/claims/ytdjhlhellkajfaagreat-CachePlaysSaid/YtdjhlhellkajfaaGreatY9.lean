/-
  Texts DMath, in one file. What each proves, and its conditions, stand at its head below.
-/
import Derived.WalkKit
set_option maxRecDepth 100000
namespace Go.Proofs.YtdjhlhellkajfaaGreat.Disk
def upd {α:Type} (f:Nat→α) (i:Nat) (x:α):Nat→α:=fun j=>if j=i then x else f j
theorem upd_same{α:Type}(f:Nat→α)(i:Nat)(x:α):upd f i x i=x:=by simp[upd]
theorem upd_other{α:Type}(f:Nat→α){i j:Nat}(x:α)(h:j≠i):upd f i x j=f j:=by simp[upd,h]
def surv (f:Int) (a b:List UInt8):List UInt8:=
 if f%4=1 then b else if f%4=2 then b.take 32++a.drop 32 else if f%4=3 then a.take 32++b.drop 32 else a
theorem surv_length(f:Int){a b:List UInt8}(ha:a.length=64)(hb:b.length=64):(surv f a b).length=64:=by
 unfold surv;split
 ·exact hb
 split
 ·simp;omega
 split
 ·simp;omega
 exact ha
structure Dsk where
 n:Nat
 safe:Nat→List UInt8
 waits:Nat→Option (List UInt8)
 off:Bool
 stops:Bool
 left:Int
def Dsk.ok (d:Dsk):Prop:=
 1≤d.n∧d.n≤65536∧(∀i,i<d.n→(d.safe i).length=64)∧(∀i s,d.waits i=some s→i<d.n∧s.length=64)∧
 -9223372036854775808≤d.left∧d.left≤9223372036854775807∧(d.stops=true→d.off=false→0≤d.left)
def fresh (n:Nat):Dsk:=⟨n,fun _=>List.replicate 64 0,fun _=>none,false,false,0⟩
theorem fresh_ok{n:Nat}(h1:1≤n)(h2:n≤65536):(fresh n).ok:=⟨h1,h2,by simp[fresh],by simp[fresh],by simp[fresh],by simp[fresh],by simp[fresh]⟩
def Dsk.done (d:Dsk):Bool:= !(d.stops&&d.left==0)
def Dsk.deed (d:Dsk):Dsk:=if d.stops then (if d.left=0 then {d with off:=true} else {d with left:=d.left-1}) else d
theorem Dsk.deed_ok{d:Dsk}(h:d.ok)(h0:d.off=false):d.deed.ok:=by
 obtain⟨h1,h2,h3,h4,h5,h6,h7⟩:=h;unfold Dsk.deed;split
 ·rename_i hs;have:=h7 hs h0;split
  ·exact⟨h1,h2,h3,h4,h5,h6,by simp⟩
  exact⟨h1,h2,h3,h4,by show _≤d.left-1;omega,by show d.left-1≤_;omega,fun _ _=>by show 0≤d.left-1;omega⟩
 exact⟨h1,h2,h3,h4,h5,h6,h7⟩
theorem Dsk.deed_parts(d:Dsk):d.deed.n=d.n∧d.deed.safe=d.safe∧d.deed.waits=d.waits:=by
 unfold Dsk.deed;split
 ·split<;>exact⟨rfl,rfl,rfl⟩
 exact⟨rfl,rfl,rfl⟩
theorem Dsk.deed_on{d:Dsk}(h:d.off=false):d.deed.off= !d.done:=by
 obtain⟨n,s,w,o,st,l⟩:=d;cases st
 ·simp_all [Dsk.deed,Dsk.done]
 by_cases hl:l=0<;>simp_all [Dsk.deed,Dsk.done]
def Dsk.put (d:Dsk) (i:Nat) (s:List UInt8):Dsk:={d with waits:=upd d.waits i (some s)}
theorem Dsk.put_ok{d:Dsk}(h:d.ok){i:Nat}(hi:i<d.n){s:List UInt8}(hs:s.length=64):(d.put i s).ok:=by
 obtain⟨h1,h2,h3,h4,h5⟩:=h;refine⟨h1,h2,h3,fun j t ht=> ?_,h5⟩;by_cases hj:j=i
 ·subst hj;have:t=s:=by simpa [Dsk.put,upd] using ht.symm
  subst this;exact⟨hi,hs⟩
 exact h4 j t (by simpa [Dsk.put,upd,hj] using ht)
def Dsk.read (d:Dsk) (i:Nat):List UInt8:=(d.waits i).getD (d.safe i)
theorem Dsk.read_length{d:Dsk}(h:d.ok){i:Nat}(hi:i<d.n):(d.read i).length=64:=by
 unfold Dsk.read;cases hw:d.waits i with
 |none=>exact h.2.2.1 i hi
 |some s=>exact(h.2.2.2.1 i s hw).2
def Dsk.synced (d:Dsk):Dsk:={d with safe:=d.read,waits:=fun _=>none}
theorem Dsk.synced_ok{d:Dsk}(h:d.ok):d.synced.ok:=⟨h.1,h.2.1,fun _ hi=>Dsk.read_length h hi,by simp[Dsk.synced],h.2.2.2.2⟩
def Dsk.stop (d:Dsk) (k:Int):Dsk:={d with stops:=true,left:=k,off:=d.off||decide (k<1)}
theorem Dsk.stop_ok{d:Dsk}(h:d.ok){k:Int}(h1: -9223372036854775808≤k)(h2:k≤9223372036854775807):(d.stop k).ok:=
 ⟨h.1,h.2.1,h.2.2.1,h.2.2.2.1,h1,h2,fun _ ho=>by
  have:decide (k<1)=false:=by cases hd:d.off<;>simp_all [Dsk.stop]
  have:¬k<1:=by simpa using this
  show 0≤k;omega⟩
def waitsOf (n:Nat) (f:Nat→Option (List UInt8)):List Nat:=(List.range n).filter fun i=>(f i).isSome
theorem waitsOf_mem{n:Nat}{f:Nat→Option (List UInt8)}{i:Nat}:i∈waitsOf n f↔i<n∧(f i).isSome=true:=by simp[waitsOf]
theorem waitsOf_nodup(n:Nat)(f:Nat→Option (List UInt8)):(waitsOf n f).Nodup:=List.Pairwise.filter _ List.nodup_range
theorem waitsOf_length(n:Nat)(f:Nat→Option (List UInt8)):(waitsOf n f).length≤n:=by
 have:=List.length_filter_le (fun i=>(f i).isSome) (List.range n);simpa [waitsOf] using this
def crashS (d:Dsk) (fs:List Int):Nat→Nat→List UInt8
 |0=>d.safe
 |m+1=>let i:=(waitsOf d.n d.waits).getD m 0
  upd (crashS d fs m) i (surv (fs.getD m 0) (crashS d fs m i) ((d.waits i).getD []))
def Dsk.crash (d:Dsk) (fs:List Int):Dsk:=⟨d.n,crashS d fs (waitsOf d.n d.waits).length,fun _=>none,false,false,0⟩
theorem crashS_length{d:Dsk}(h:d.ok)(fs:List Int):∀m,m≤(waitsOf d.n d.waits).length→∀i,i<d.n→(crashS d fs m i).length=64
 |0,_,i,hi=>h.2.2.1 i hi
 |m+1,hm,i,hi=>by
  show(upd (crashS d fs m) _ _ i).length=64;have hmem:(waitsOf d.n d.waits).getD m 0∈waitsOf d.n d.waits:=by
   rw[List.getD_eq_getElem?_getD,List.getElem?_eq_getElem (by omega)];exact List.getElem_mem _
  obtain⟨hk,hs⟩:=waitsOf_mem.1 hmem;generalize (waitsOf d.n d.waits).getD m 0=k at hk hs ⊢;by_cases he:i=k
  ·subst he;rw[upd_same];obtain⟨s,hs⟩:=Option.isSome_iff_exists.1 hs;rw[hs];exact surv_length _ (crashS_length h fs m (by omega) i hi) (h.2.2.2.1 i s hs).2
  rw[upd_other _ _ he];exact crashS_length h fs m (by omega) i hi
theorem Dsk.crash_ok{d:Dsk}(h:d.ok)(fs:List Int):(d.crash fs).ok:=
 ⟨h.1,h.2.1,fun i hi=>crashS_length h fs _ (Nat.le_refl _) i hi,by simp[Dsk.crash],by simp[Dsk.crash],by simp[Dsk.crash],by simp[Dsk.crash]⟩
def halfs (a b x:List UInt8):Prop:=(x.take 32=a.take 32∨x.take 32=b.take 32)∧(x.drop 32=a.drop 32∨x.drop 32=b.drop 32)
theorem halfs_left(a b:List UInt8):halfs a b a:=⟨.inl rfl,.inl rfl⟩
theorem halfs_right(a b:List UInt8):halfs a b b:=⟨.inr rfl,.inr rfl⟩
theorem halfs_surv(f:Int){a b d x:List UInt8}(hx:x.length=64)(hb:d.length=64)(h1:halfs a b x)(h2:halfs a b d):halfs a b (surv f x d):=by
 unfold surv;split
 ·exact h2
 split
 ·exact⟨by rw[List.take_append_of_le_length (by simp;omega),List.take_take,Nat.min_self];exact h2.1,
   by rw[List.drop_append_of_le_length (by simp;omega),List.drop_take];simpa using h1.2⟩
 split
 ·exact⟨by rw[List.take_append_of_le_length (by simp;omega),List.take_take,Nat.min_self];exact h1.1,
   by rw[List.drop_append_of_le_length (by simp;omega),List.drop_take];simpa using h2.2⟩
 exact h1
theorem crash_halfs{d:Dsk}(h:d.ok)(fs:List Int):∀m,m≤(waitsOf d.n d.waits).length→∀i,i<d.n→halfs (d.safe i) (d.read i) (crashS d fs m i)
 |0,_,i,_=>halfs_left _ _
 |m+1,hm,i,hi=>by
  show halfs _ _ (upd (crashS d fs m) _ _ i);have hmem:(waitsOf d.n d.waits).getD m 0∈waitsOf d.n d.waits:=by
   rw[List.getD_eq_getElem?_getD,List.getElem?_eq_getElem (by omega)];exact List.getElem_mem _
  obtain⟨hk,hs⟩:=waitsOf_mem.1 hmem;generalize (waitsOf d.n d.waits).getD m 0=k at hk hs ⊢;by_cases he:i=k
  ·subst he;rw[upd_same];obtain⟨s,hs⟩:=Option.isSome_iff_exists.1 hs;have hr:d.read i=s:=by simp[Dsk.read,hs]
   rw[hs];exact halfs_surv _ (crashS_length h fs m (by omega) i hi) (h.2.2.2.1 i s hs).2 (crash_halfs h fs m (by omega) i hi) (by rw[hr];exact halfs_right _ _)
  rw[upd_other _ _ he];exact crash_halfs h fs m (by omega) i hi
end Go.Proofs.YtdjhlhellkajfaaGreat.Disk
