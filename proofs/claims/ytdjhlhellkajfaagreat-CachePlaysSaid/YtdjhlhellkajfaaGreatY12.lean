/-
  Texts CGet, CCount, in one file. What each proves, and its conditions, stand at its head below.
-/
import Derived.Test.YtdjhlhellkajfaaGreatY5
import Derived.Deep.QuietTactic
import Derived.BigQuiet
set_option maxRecDepth 100000
set_option maxHeartbeats 1000000
open Go.Lib (hid)
namespace Go.Proofs.YtdjhlhellkajfaaGreat.Cod
open Go.RowKit Codec
theorem Rdr.nils{w:World}{B g:Nat}{A:Option Addr}{n c:Nat}{b:Bool}(hB:B≤g)(hg:w.heap[g]? =some (.cells #[.slice A n c,.bool b] 138 (0,0))):
  Rdr 138 ((w.setCell ⟨g,1,none⟩ (.bool true)).setCell ⟨g,0,none⟩ (.slice none 0 0)) B g ⟨[],true⟩∧w.grownBy ((w.setCell ⟨g,1,none⟩ (.bool true)).setCell ⟨g,0,none⟩ (.slice none 0 0)) (some g):=by
 refine⟨Rdr.bads hB (A:=none) ?_,grown_trans (grown_set w g 1 _) (grown_set _ g 0 _)⟩;rw[set_at (set_at hg 1 _) 0 _];rfl
theorem get_few(w:World)(B g k:Nat)(s:St)(hr:Rdr 138 w B g s)(hsh:short k s=true):
  Calls Tryz.prog 117 #[.pointer (some ⟨g,0,none⟩),.int .i64 k] w (Took 138 w B g (tk k s) (tkS k s)):=by
 rw[tk_short hsh,tkS_short hsh];obtain⟨_,hB,A,n,c,hg,hb,_⟩:=hr;have HN:=hid (Rdr.nils hB hg);have c0:w.cell? ⟨g,0,none⟩=some (.slice A n c):=cell_at hg 0;have c1:w.cell? ⟨g,1,none⟩=some (.bool s.bad):=cell_at hg 1;have f0:=free_at hg 0;have f1:=free_at hg 1;have hn:=hb.len;unfold short at hsh;rw[hn] at hsh;clear hg hb hn;generalize s.bad=b at *;cases b
 ·have hk:n<k:=by simpa using hsh
  clear hsh;go_enter Tryz.func117,Tryz.ntmps117;go_wp2;go_ret;exact⟨none,0,0,rfl,Byts.none_,HN.out.1,HN.out.2⟩
 clear hsh;go_enter Tryz.func117,Tryz.ntmps117;go_wp2;go_ret;exact⟨none,0,0,rfl,Byts.none_,HN.out.1,HN.out.2⟩
theorem get_long(w:World)(B g k:Nat)(s:St)(hr:Rdr 138 w B g s)(hsh:short k s=false):
  Calls Tryz.prog 117 #[.pointer (some ⟨g,0,none⟩),.int .i64 k] w (Took 138 w B g (tk k s) (tkS k s)):=by
 obtain⟨hok,hB,A,n,c,hg,hb,hnc,hcm,hnm⟩:=hr;have hl:=hb.len;have h1:Hid (tk k s=s.left.take k∧tkS k s=⟨s.left.drop k,false⟩):=by unfold tk tkS;rw[hsh];exact hid ⟨rfl,rfl⟩
 have hsb:s.bad=false∧k≤n:=by
  unfold short at hsh;rw[hl] at hsh;simpa using hsh
 obtain⟨hsb,hkn⟩:=hsb;have hkc:k≤c:=by omega
 have hcm2:c≤9223372036854775807:=hcm;rw[hsb] at hg;have HB:=hid hb;have HG:=hid hg;have c0:w.cell? ⟨g,0,none⟩=some (.slice A n c):=cell_at hg 0;have c1:w.cell? ⟨g,1,none⟩=some (.bool false):=cell_at hg 1;have f0:=free_at hg 0;have hs1:=fun w=>run_to w A n c k hkc;have hs2:=fun w=>run_from w A n c k hkn;have HA:=hid (HB.out.drop k c hkn hnc);generalize (if c=k then A else A.map (·.add k))=A2 at *;have hd:decide (n<k)=false:=by simpa using hkn
 clear hg hl hb hok hcm hsb hsh;go_enter Tryz.func117,Tryz.ntmps117;go_wp2_with fail;go_ret;rw[h1.out.1,h1.out.2];refine⟨A,k,c,rfl,(HB.out.take k hkn).setCell hB _,⟨goodOk _,hB,A2,n-k,c-k,set_at HG.out 0 _,HA.out.setCell hB _,by omega,?_,by omega⟩,grown_set w g 0 _⟩;unfold maxLen;omega
theorem get_any(w:World)(B g k:Nat)(s:St)(hr:Rdr 138 w B g s):
  Calls Tryz.prog 117 #[.pointer (some ⟨g,0,none⟩),.int .i64 k] w (Took 138 w B g (tk k s) (tkS k s)):=by
 cases h:short k s
 ·exact get_long w B g k s hr h
 exact get_few w B g k s hr h
theorem rnum_any(w:World)(B g:Nat)(s:St)(hr:Rdr 138 w B g s):
  Calls Tryz.prog 79 #[.pointer (some ⟨g,0,none⟩)] w (Turned 138 w B g (.int .i64 (num s)) (tkS 8 s)):=by
 have HT:=hid (get_any w B g 8 s hr);have HS:Hid (wrap64 (leVal (tk 8 s):Int)=num s):=signed_of _ (num_lt s);clear hr;have hle:=take_le 8 s;go_enter Tryz.func79,Tryz.ntmps79;go_wp2_with fail;refine HT.out.mono ?_;rintro e w1 ⟨A,m,c,rfl,hb,hw,hgr⟩;have HB:=hid hb;have HW:=hid hw;have HG:=hid hgr;have hm:m≤8:=by have:=hb.len;omega
 clear hle;generalize tk 8 s=xs at *;generalize tkS 8 s=s1 at *;generalize num s=y at *;clear hb hw hgr HT;go_wp2_with fail;go_loop [4,5] (fun r i=>∃j:Nat,j≤m∧i= .int .i64 j∧r= .int .u64 (leVal (xs.take j))) (fun _ i=>m-(intOf i).toNat)
 case atStart=>exact⟨0,Nat.zero_le _,rfl,rfl⟩
 case round=>
  obtain⟨j,hj,rfl,rfl⟩:=hrel;by_cases hlt:j<m
  ·obtain⟨b,off,hA,_,hc⟩:=HB.out.at_ (by omega);subst hA;have hcx:=hc j hlt;have HX:=hid (number_step xs j (by rw[HB.out.len];exact hlt));have HR:=hid (leVal_lt (xs.take j));have HJ:=hid (show(xs.take j).length=j by rw[List.length_take,HB.out.len];omega);unfold byt at hcx;clear hc;generalize leVal (xs.take j)=r at *;go_wp2;go_round
   case rel=>
    have hr:=HR.out;rw[HJ.out] at hr;refine⟨j+1,by omega,by go_num,?_⟩;rw[HX.out,List.getD_eq_getElem?_getD,or_step r _ j hr (UInt8.toNat_lt _) (by omega)]
   case measure=>simp[intOf];omega
  obtain rfl:j=m:=by omega
  have HJ:=hid (show xs.take j=xs from List.take_of_length_le (by rw[HB.out.len];omega));rw[HJ.out];generalize leVal xs=r at *;go_wp2;go_ret;exact⟨by rw[←HS.out];rfl,HW.out,HG.out⟩
end Go.Proofs.YtdjhlhellkajfaaGreat.Cod
namespace Go.Proofs.YtdjhlhellkajfaaGreat.Cod
open Go.RowKit Codec
theorem two_of(xs:List UInt8)(h:xs.length=2):leVal xs=(xs.getD 0 0).toNat+256 * (xs.getD 1 0).toNat:=by
 match xs,h with
 |[x,y],_=>simp[leVal]
theorem grown_drewN{w w':World}{row:Option Nat}(h:w.grownBy w' row)(m:Nat):w.grownBy (w'.drewN m) row:=⟨h.os,h.tape,h.output,h.size,h.block⟩
theorem Rdr.drewN{T:TypeId}{w:World}{B g:Nat}{s:St}(h:Rdr T w B g s)(m:Nat):Rdr T (w.drewN m) B g s:=h.keep (fun _ _=>rfl) rfl
theorem bad_at{w:World}{B g:Nat}{s:St}(h:Rdr 138 w B g s):w.cell? ⟨g,1,none⟩=some (.bool s.bad):=by
 obtain⟨_,_,A,n,c,hg,_⟩:=h;exact cell_at hg 1
theorem rcount_few(w:World)(B g:Nat)(most:Int)(s:St)(hr:Rdr 138 w B g s)(hsh:short 2 s=true):
  Calls Tryz.prog 105 #[.pointer (some ⟨g,0,none⟩),.int .i64 most] w (Turned 138 w B g (.int .i64 (count most s)) (countS most s)):=by
 have HT:=hid (get_any w B g 2 s hr);have h0:small s=0:=by unfold small;rw[tk_short hsh];rfl
 have h1:Hid (count most s=0):=by unfold count;rw[h0];split<;>exact hid rfl
 have h2:Hid (countS most s=⟨[],true⟩):=by unfold countS;rw[tkS_short hsh];split<;>exact hid rfl
 rw[tk_short hsh,tkS_short hsh] at HT;rw[h1.out,h2.out];clear hr hsh h0 h1 h2;go_enter Tryz.func105,Tryz.ntmps105;go_wp2_with fail;refine HT.out.mono ?_;rintro e w1 ⟨A,m,c,rfl,hb,hw,hgr⟩;have HW:=hid hw;have HG:=hid hgr;have hc:=bad_at hw;clear hb hw hgr HT;go_wp2_with fail;go_ret;exact⟨rfl,HW.out,HG.out⟩
theorem rcount_long(w:World)(B g:Nat)(most:Int)(s:St)(hr:Rdr 138 w B g s)(hsh:short 2 s=false):
  Calls Tryz.prog 105 #[.pointer (some ⟨g,0,none⟩),.int .i64 most] w (Turned 138 w B g (.int .i64 (count most s)) (countS most s)):=by
 have HT:=hid (get_any w B g 2 s hr);have hl:(tk 2 s).length=2:=by
  unfold tk;rw[hsh,if_neg (by decide),List.length_take];unfold short at hsh;simp at hsh;omega
 have hsm:=two_of (tk 2 s) hl;have e:leVal (tk 2 s)=small s:=rfl;have hx:small s<65536:=small_lt s;rw[e] at hsm;have hbd:(tkS 2 s).bad=false:=by unfold tkS;rw[hsh];rfl
 have HS:=hid hsm;have HL:=hid hl;have HBD:=hid hbd;have hy0:=(tk 2 s).getD 0 0|>.toNat_lt;have hy1:=(tk 2 s).getD 1 0|>.toNat_lt;generalize tk 2 s=xs at *;clear hr hsh e hsm hl hbd;go_enter Tryz.func105,Tryz.ntmps105;go_wp2_with fail;refine HT.out.mono ?_;rintro e w1 ⟨A,m,c,rfl,hb,hw,hgr⟩;have hm:=hb.len;rw[HL.out] at hm;subst hm;obtain⟨b,off,rfl,hbB,hcx⟩:=hb.at_ (by decide);have d0:=hcx 0 (by decide);have d1:=hcx 1 (by decide);unfold byt at d0 d1;rw[Nat.add_zero] at d0;have hc:=bad_at hw;rw[HBD.out] at hc;have HW:=hid hw;have HG:=hid hgr;obtain⟨_,hB,A2,n2,c2,hg2,_⟩:=hw;have HN:=hid (fun m=>Rdr.nils (w:=w1.drewN m) hB hg2);have c0:w1.cell? ⟨g,0,none⟩=some (.slice A2 n2 c2):=cell_at hg2 0;have f0:=free_at hg2 0;have f1:=free_at hg2 1;clear hb hgr HT hcx hg2;have hS2:(((xs.getD 0 0).toNat+256 * (xs.getD 1 0).toNat:Nat))=small s:=HS.out.symm;have HS2:=hid hS2;clear hS2;generalize (xs.getD 0 0).toNat=x0 at *;generalize (xs.getD 1 0).toNat=x1 at *;go_wp2_with fail;go_quiet (fail);by_cases ho:most<(x0:Int)+256 * (x1:Int)
 ·have ho2:most<(small s:Int):=by rw[HS.out];omega
  have H1:Hid (count most s=0):=by unfold count over;rw[decide_eq_true ho2];exact hid rfl
  have H2:Hid (countS most s=⟨[],true⟩):=by unfold countS over;rw[decide_eq_true ho2];exact hid rfl
  clear ho2;go_wp2;go_ret;rw[H1.out,H2.out];exact⟨rfl,(HN.out _).1,grown_trans (grown_drewN HG.out _) (HN.out _).2⟩
 have ho2:¬most<(small s:Int):=by rw[HS.out];omega
 have H1:Hid (count most s=small s):=by unfold count over;rw[decide_eq_false ho2];exact hid rfl
 have H2:Hid (countS most s=tkS 2 s):=by unfold countS over;rw[decide_eq_false ho2];exact hid rfl
 clear ho2;go_wp2;go_ret;rw[H1.out,H2.out,HS.out];refine⟨?_,HW.out.drewN _,grown_drewN HG.out _⟩;simp
theorem rcount_any(w:World)(B g:Nat)(most:Int)(s:St)(hr:Rdr 138 w B g s):
  Calls Tryz.prog 105 #[.pointer (some ⟨g,0,none⟩),.int .i64 most] w (Turned 138 w B g (.int .i64 (count most s)) (countS most s)):=by
 cases h:short 2 s
 ·exact rcount_long w B g most s hr h
 exact rcount_few w B g most s hr h
end Go.Proofs.YtdjhlhellkajfaaGreat.Cod
