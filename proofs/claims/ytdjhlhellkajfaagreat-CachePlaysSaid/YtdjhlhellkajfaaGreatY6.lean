/-
  Texts SBits, in one file. What each proves, and its conditions, stand at its head below.
-/
import Derived.Test.YtdjhlhellkajfaaGreatY1
import Derived.Test.YtdjhlhellkajfaaGreatRows
import Derived.Laws.BitsAll
import Derived.WalkKit
set_option maxRecDepth 100000
namespace Go.Proofs.YtdjhlhellkajfaaGreat.Sum
open Go.RowKit Sums
theorem all_ones_xor(s:Nat)(hs:s<4294967296):4294967295^^^s=4294967295-s:=by
 have h:=BitVec.toNat_not (x:=BitVec.ofNat 32 s);rw[←BitVec.allOnes_xor,BitVec.toNat_xor,BitVec.toNat_ofNat,BitVec.toNat_allOnes,Nat.mod_eq_of_lt (a:=s) (by omega)] at h;exact h
theorem max_xor(s:Nat)(hs:s<4294967296):bits .xor .u32 IntKind.u32.max (s:Int)=((4294967295-s:Nat):Int):=by
 rw[show IntKind.u32.max=((4294967295:Nat):Int) from rfl,u32_xor_nat _ _ (by decide) hs,all_ones_xor s hs]
theorem xor_max(s:Nat)(hs:s<4294967296):bits .xor .u32 (s:Int) 4294967295=((4294967295-s:Nat):Int):=by
 rw[show(4294967295:Int)=((4294967295:Nat):Int) from rfl,u32_xor_nat _ _ hs (by decide),Nat.xor_comm,all_ones_xor s hs]
theorem shr_nat(x j:Nat):(x:Int)/2^j=((x/2^j:Nat):Int):=by simp
theorem bit_of(x j:Nat)(hx:x≤255):bits .and .u32 ((x:Int)/2^j%4294967296) 1=((x/2^j%2:Nat):Int):=by
 have h:x/2^j≤x:=Nat.div_le_self _ _;rw[shr_nat];generalize x/2^j=y at *;rw[show(y:Int)%4294967296=(y:Int) by omega,show(1:Int)=((1:Nat):Int) from rfl,u32_and_nat _ _ (by omega) (by decide),nat_mask1]
theorem half(u:Nat):(u:Int)/2=((u/2:Nat):Int):=by omega
theorem prog_step(r x j:Nat)(hr:r<4294967296)(hx:x≤255):
  bits .xor .u32 (bits .xor .u32 (r:Int) (bits .and .u32 ((x:Int)/2^j%4294967296) 1)/2)
   (bits .and .u32 (-bits .and .u32 (bits .xor .u32 (r:Int) (bits .and .u32 ((x:Int)/2^j%4294967296) 1)) 1%4294967296) 3988292384)=
  ((crcBit r (x/2^j%2):Nat):Int):=by
 have hb:x/2^j%2<2:=Nat.mod_lt _ (by decide);rw[bit_of x j hx,u32_xor_nat _ _ hr (by omega)];have hu:=xor_lt hr hb;unfold crcBit;generalize r^^^x/2^j%2=u at *;rw[show(1:Int)=((1:Nat):Int) from rfl,u32_and_nat _ _ hu (by decide),nat_mask1,half];by_cases h:u%2=1
 ·rw[if_pos h,h,show-((1:Nat):Int)%4294967296=((4294967295:Nat):Int) from rfl,show(3988292384:Int)=((3988292384:Nat):Int) from rfl,
   u32_and_nat _ _ (by decide) (by decide),show(4294967295&&& 3988292384:Nat)=3988292384 by decide,u32_xor_nat _ _ (by omega) (by decide)]
 have h0:u%2=0:=by omega
 rw[if_neg h,h0,show-((0:Nat):Int)%4294967296=((0:Nat):Int) from rfl,show(3988292384:Int)=((3988292384:Nat):Int) from rfl,
  u32_and_nat _ _ (by decide) (by decide),show(0&&& 3988292384:Nat)=0 by decide,u32_xor_nat _ _ (by omega) (by decide),Nat.xor_zero]
theorem ref_bit(x m:Nat)(hx:x≤255):bits .and .u8 ((x:Int)/2^m) 1%4294967296=((x/2^m%2:Nat):Int):=by
 have h:x/2^m≤x:=Nat.div_le_self _ _;rw[shr_nat];generalize x/2^m=y at *;rw[show(1:Int)=((1:Nat):Int) from rfl,u8_and_nat _ _ (by omega) (by decide),nat_mask1];omega
theorem ref_test(r x m:Nat)(hr:r<4294967296)(hx:x≤255)(t:Bool)
  (h:(bits .and .u32 (bits .xor .u32 (r:Int) (bits .and .u8 ((x:Int)/2^m) 1%4294967296)) 1==1)=t):decide ((r^^^x/2^m%2)%2=1)=t:=by
 have hb:x/2^m%2<2:=Nat.mod_lt _ (by decide);rw[ref_bit x m hx,u32_xor_nat _ _ hr (by omega),show(1:Int)=((1:Nat):Int) from rfl,u32_and_nat _ _ (xor_lt hr hb) (by decide),nat_mask1] at h;rw[←h,Bool.eq_iff_iff];generalize r^^^x/2^m%2=u;simp;omega
theorem ref_step_yes(r x m:Nat)(hr:r<4294967296)(hx:x≤255)
  (h:(bits .and .u32 (bits .xor .u32 (r:Int) (bits .and .u8 ((x:Int)/2^m) 1%4294967296)) 1==1)=true):
  bits .xor .u32 (bits .xor .u32 (r:Int) (bits .and .u8 ((x:Int)/2^m) 1%4294967296)/2) 3988292384=((crcBit r (x/2^m%2):Nat):Int):=by
 have hd:=ref_test r x m hr hx _ h;have hb:x/2^m%2<2:=Nat.mod_lt _ (by decide);have hu:=xor_lt hr hb;rw[decide_eq_true_eq] at hd;unfold crcBit;rw[if_pos hd,ref_bit x m hx,u32_xor_nat _ _ hr (by omega),half,show(3988292384:Int)=((3988292384:Nat):Int) from rfl,u32_xor_nat _ _ (by omega) (by decide)]
theorem ref_step_no(r x m:Nat)(hr:r<4294967296)(hx:x≤255)
  (h:(bits .and .u32 (bits .xor .u32 (r:Int) (bits .and .u8 ((x:Int)/2^m) 1%4294967296)) 1==1)=false):
  bits .xor .u32 (r:Int) (bits .and .u8 ((x:Int)/2^m) 1%4294967296)/2=((crcBit r (x/2^m%2):Nat):Int):=by
 have hd:=ref_test r x m hr hx _ h;have hb:x/2^m%2<2:=Nat.mod_lt _ (by decide);rw[decide_eq_false_iff_not] at hd;unfold crcBit;rw[if_neg hd,ref_bit x m hx,u32_xor_nat _ _ hr (by omega),half]
theorem fnv_step(h x:Nat)(hh:h<18446744073709551616)(hx:x≤255):
  IntKind.u64.wrap (bits .xor .u64 (h:Int) (x:Int) * 1099511628211)=(((h^^^x) * 1099511628211%18446744073709551616:Nat):Int):=by
 rw[u64_xor_nat h x hh (by omega),IntKind.wrap_u64];omega
end Go.Proofs.YtdjhlhellkajfaaGreat.Sum
