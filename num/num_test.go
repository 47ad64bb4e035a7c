package num

import (
	"math"
	"math/big"
	"testing"

	"treadmill/api"
)

const least, most = math.MinInt64, math.MaxInt64

// edges are numbers at which sums wrap, signs turn, or 0 is near.
var edges = []int64{least, least + 1, -1 << 32, -10, -7, -3, -2, -1, 0, 1, 2, 3, 7, 10, 1 << 32, most - 1, most}

// ops are all that api has, and numbers that are none.
var ops = []int{math.MinInt, -18, -1, 0, 1, 2, 3, 4, 5, 6, 7, 8, 9, 10, 11, 12, 13, 14, 15, 16, 17, 18, 19, 255, 1 << 32, math.MaxInt}

var twos = []int{api.OpMul, api.OpDiv, api.OpRem, api.OpAdd, api.OpSub, api.OpEq, api.OpNe, api.OpLt, api.OpLe}

var ones = []int{api.OpCopy, api.OpNeg, api.OpNot}

func has(l []int, x int) bool {
	for _, y := range l {
		if x == y {
			return true
		}
	}
	return false
}

// wrapped is a whole number modulo 2^64, as one of 64 bits with a sign.
func wrapped(n *big.Int) int64 {
	low := new(big.Int).And(n, new(big.Int).SetUint64(math.MaxUint64))
	return int64(low.Uint64())
}

func held(is bool) int64 {
	if is {
		return 1
	}
	return 0
}

// wantTwo reckons in whole numbers without a bound.
func wantTwo(op int, a, b int64) (int64, bool) {
	x, y, z := big.NewInt(a), big.NewInt(b), new(big.Int)
	switch op {
	case api.OpMul:
		return wrapped(z.Mul(x, y)), true
	case api.OpAdd:
		return wrapped(z.Add(x, y)), true
	case api.OpSub:
		return wrapped(z.Sub(x, y)), true
	case api.OpDiv:
		if b == 0 {
			return 0, false
		}
		return wrapped(z.Quo(x, y)), true
	case api.OpRem:
		if b == 0 {
			return 0, false
		}
		return wrapped(z.Rem(x, y)), true
	case api.OpEq:
		return held(x.Cmp(y) == 0), true
	case api.OpNe:
		return held(x.Cmp(y) != 0), true
	case api.OpLt:
		return held(x.Cmp(y) < 0), true
	case api.OpLe:
		return held(x.Cmp(y) <= 0), true
	}
	return 0, false
}

func wantOne(op int, a int64) (int64, bool) {
	switch op {
	case api.OpCopy:
		return a, true
	case api.OpNeg:
		return wrapped(new(big.Int).Neg(big.NewInt(a))), true
	case api.OpNot:
		return held(a == 0), true
	}
	return 0, false
}

func TestP101FalseIsZero(t *testing.T) {
	for _, op := range ops {
		for _, a := range edges {
			if n, ok := One(op, a); !ok && n != 0 || ok != has(ones, op) {
				t.Error("One", op, a, n, ok)
			}
			for _, b := range edges {
				divides := op == api.OpDiv || op == api.OpRem
				if n, ok := Two(op, a, b); !ok && n != 0 || ok != (has(twos, op) && !(divides && b == 0)) {
					t.Error("Two", op, a, b, n, ok)
				}
			}
		}
	}
	for _, s := range wrongTexts() {
		if n, ok := Read(s); n != 0 || ok {
			t.Errorf("Read %q: %d %v", s, n, ok)
		}
	}
}

func TestP102TwoNamed(t *testing.T) {
	for _, x := range []struct {
		op      int
		a, b, n int64
	}{
		{api.OpMul, 6, 7, 42}, {api.OpMul, -6, 7, -42}, {api.OpMul, most, 2, -2}, {api.OpMul, least, -1, least},
		{api.OpAdd, 2, 3, 5}, {api.OpAdd, most, 1, least}, {api.OpAdd, least, -1, most}, {api.OpAdd, least, least, 0},
		{api.OpSub, 2, 3, -1}, {api.OpSub, least, 1, most}, {api.OpSub, 0, least, least}, {api.OpSub, -1, least, most}, {api.OpSub, least, least, 0},
		{api.OpDiv, 7, 2, 3}, {api.OpDiv, -7, 2, -3}, {api.OpDiv, 7, -2, -3}, {api.OpDiv, -7, -2, 3}, {api.OpDiv, 0, 5, 0}, {api.OpDiv, least, -1, least}, {api.OpDiv, least, 1, least},
		{api.OpRem, 7, 2, 1}, {api.OpRem, -7, 2, -1}, {api.OpRem, 7, -2, 1}, {api.OpRem, -7, -2, -1}, {api.OpRem, least, -1, 0}, {api.OpRem, 5, -1, 0},
		{api.OpEq, 2, 2, 1}, {api.OpEq, 2, 3, 0}, {api.OpNe, 2, 2, 0}, {api.OpNe, 2, 3, 1},
		{api.OpLt, 1, 2, 1}, {api.OpLt, 2, 2, 0}, {api.OpLt, 3, 2, 0}, {api.OpLt, least, most, 1}, {api.OpLt, most, least, 0},
		{api.OpLe, 1, 2, 1}, {api.OpLe, 2, 2, 1}, {api.OpLe, 3, 2, 0}, {api.OpLe, least, most, 1}, {api.OpLe, most, least, 0},
	} {
		if n, ok := Two(x.op, x.a, x.b); n != x.n || !ok {
			t.Error(x, n, ok)
		}
	}
	for _, op := range []int{api.OpDiv, api.OpRem} {
		for _, a := range edges {
			if n, ok := Two(op, a, 0); n != 0 || ok {
				t.Error("by 0", op, a, n, ok)
			}
		}
	}
}

func TestP102TwoAsTrueSums(t *testing.T) {
	for _, op := range ops {
		for _, a := range edges {
			for _, b := range edges {
				n, ok := Two(op, a, b)
				if w, is := wantTwo(op, a, b); n != w || ok != is {
					t.Error(op, a, b, "told", n, ok, "want", w, is)
				}
			}
		}
	}
}

func TestP102One(t *testing.T) {
	for _, op := range ops {
		for _, a := range edges {
			n, ok := One(op, a)
			if w, is := wantOne(op, a); n != w || ok != is {
				t.Error(op, a, "told", n, ok, "want", w, is)
			}
		}
	}
	for _, x := range [][3]int64{{api.OpCopy, 7, 7}, {api.OpNeg, 7, -7}, {api.OpNeg, least, least}, {api.OpNot, 0, 1}, {api.OpNot, 1, 0}, {api.OpNot, -1, 0}, {api.OpNot, 7, 0}} {
		if n, ok := One(int(x[0]), x[1]); n != x[2] || !ok {
			t.Error(x, n, ok)
		}
	}
}

func TestP103Pure(t *testing.T) {
	pure := []int{api.OpConst, api.OpCopy, api.OpNeg, api.OpNot, api.OpMul, api.OpAdd, api.OpSub, api.OpEq, api.OpNe, api.OpLt, api.OpLe, api.OpParam}
	for _, op := range ops {
		if Pure(op) != has(pure, op) {
			t.Error(op, Pure(op))
		}
	}
}

func TestP103Digits(t *testing.T) {
	for _, x := range []struct {
		n int64
		s string
	}{{0, "0"}, {7, "7"}, {10, "10"}, {-1, "-1"}, {-10, "-10"}, {most, "9223372036854775807"}, {least, "-9223372036854775808"}} {
		if s := Digits(x.n); s != x.s {
			t.Errorf("%d: %q", x.n, s)
		}
	}
}

func TestP103Read(t *testing.T) {
	for _, x := range []struct {
		s string
		n int64
	}{{"0", 0}, {"1", 1}, {"9", 9}, {"10", 10}, {"100", 100}, {"1234567890", 1234567890}, {"1000000000000000000", 1e18}, {"9223372036854775806", most - 1}, {"9223372036854775807", most}} {
		if n, ok := Read(x.s); n != x.n || !ok {
			t.Errorf("%q: %d %v", x.s, n, ok)
		}
	}
}

// wrongTexts are texts that are no number: each byte that is no digit stands in one, alone and behind a digit.
func wrongTexts() []string {
	l := []string{
		"", "00", "01", "007", "000000000000000000", "0000000000000000000", "09223372036854775807",
		"-1", "-0", "+1", " 1", "1 ", "1\n", "1_0", "1.0", "1e3", "0x1", "0b1", "0o7", "١", "１", "½",
		"9223372036854775808", "9999999999999999999", "10000000000000000000", "18446744073709551616", "18446744073709551617", "99999999999999999999",
		"100000000000000000000000000000000000000", "-9223372036854775808",
	}
	for c := range 256 {
		if c < '0' || c > '9' {
			l = append(l, string([]byte{byte(c)}), string([]byte{'1', byte(c)}), string([]byte{byte(c), '1'}))
		}
	}
	return l
}

func TestP104ThereAndBack(t *testing.T) {
	try := func(n int64) {
		s := Digits(n)
		m, ok := Read(s)
		if n < 0 {
			if m != 0 || ok {
				t.Error(n, s, m, ok)
			}
			return
		}
		if m != n || !ok {
			t.Error(n, s, m, ok)
		}
		if Digits(m) != s {
			t.Error(s, Digits(m))
		}
	}
	for _, n := range edges {
		try(n)
	}
	for n := range int64(2000) {
		try(n - 1000)
	}
	for n := int64(1); n < most/10; n *= 10 {
		for d := int64(-1); d < 2; d++ {
			try(n*10 + d)
		}
	}
}

func TestP104QuotientAndRest(t *testing.T) {
	for _, a := range edges {
		for _, b := range edges {
			if b == 0 {
				continue
			}
			q, _ := Two(api.OpDiv, a, b)
			r, _ := Two(api.OpRem, a, b)
			m, _ := Two(api.OpMul, q, b)
			if s, _ := Two(api.OpAdd, m, r); s != a {
				t.Error(a, b, q, r, s)
			}
		}
	}
}
