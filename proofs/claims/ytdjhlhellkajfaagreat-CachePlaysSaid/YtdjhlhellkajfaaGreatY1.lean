/-
  Texts SMath, in one file. What each proves, and its conditions, stand at its head below.
-/
namespace Go.Proofs.YtdjhlhellkajfaaGreat.Sums
def crcBit (r b:Nat):Nat:=if (r^^^b)%2=1 then ((r^^^b)/2)^^^3988292384 else (r^^^b)/2
def crcN (r:Nat) (f:Nat→Nat):Nat→Nat
 |0=>r
 |i+1=>crcBit (crcN r f i) (f i)
def bitAt (xs:List Nat) (i:Nat):Nat:=xs.getD (i/8) 0/2^(i%8)%2
def fnvN (xs:List Nat):Nat→Nat
 |0=>14695981039346656037
 |i+1=>(fnvN xs i^^^xs.getD i 0) * 1099511628211%18446744073709551616
theorem bitAt_lt(xs:List Nat)(i:Nat):bitAt xs i<2:=Nat.mod_lt _ (by decide)
theorem xor_lt{r b:Nat}(hr:r<4294967296)(hb:b<2):r^^^b<4294967296:=
 Nat.xor_lt_two_pow (n:=32) hr (by omega)
theorem crcBit_lt{r b:Nat}(hr:r<4294967296)(hb:b<2):crcBit r b<4294967296:=by
 have h:=xor_lt hr hb;unfold crcBit;split
 ·exact Nat.xor_lt_two_pow (n:=32) (by omega) (by omega)
 omega
theorem crcN_lt{r:Nat}{f:Nat→Nat}(hr:r<4294967296)(hf:∀i,f i<2)(i:Nat):crcN r f i<4294967296:=by
 induction i with
 |zero=>exact hr
 |succ i ih=>exact crcBit_lt ih (hf i)
theorem fnvN_lt(xs:List Nat)(i:Nat):fnvN xs i<18446744073709551616:=by
 cases i with
 |zero=>show 14695981039346656037<_;omega
 |succ i=>exact Nat.mod_lt _ (by decide)
def more (s:Nat) (xs:List Nat):Nat:=4294967295-crcN (4294967295-s) (bitAt xs) (8 * xs.length)
def crc (xs:List Nat):Nat:=more 0 xs
def fnv (xs:List Nat):Nat:=fnvN xs xs.length
theorem more_lt(s:Nat)(xs:List Nat):more s xs<4294967296:=by unfold more;omega
theorem crc_lt(xs:List Nat):crc xs<4294967296:=more_lt 0 xs
theorem fnv_lt(xs:List Nat):fnv xs<18446744073709551616:=fnvN_lt xs _
end Go.Proofs.YtdjhlhellkajfaaGreat.Sums
