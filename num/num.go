// Package num is layer 1: what is reckoned, and how numbers are written: see shared/doc/01-num.md.
package num

import (
	"math"
	"strconv"

	"treadmill/api"
)

// mostDigits is how many digits the greatest number has; a uint64 holds any number of so many digits.
const mostDigits = 19

// Two tells what an op makes of two numbers; false of an op that takes no two, and of what is divided by 0.
func Two(op int, a, b int64) (int64, bool) {
	switch op {
	case api.OpMul:
		return a * b, true
	case api.OpDiv:
		if b == 0 {
			return 0, false
		}
		return a / b, true
	case api.OpRem:
		if b == 0 {
			return 0, false
		}
		return a % b, true
	case api.OpSub:
		// Modulo 2^64 this holds of the least number, too, which is its own negative.
		b = -b
		fallthrough
	case api.OpAdd:
		return a + b, true
	case api.OpEq:
		return truth(a == b), true
	case api.OpNe:
		return truth(a != b), true
	case api.OpLe:
		if a == b {
			return 1, true
		}
		fallthrough
	case api.OpLt:
		return truth(a < b), true
	}
	return 0, false
}

// One tells what an op makes of one number; false of an op that takes no one.
func One(op int, a int64) (int64, bool) {
	switch op {
	case api.OpNeg:
		a = -a
		fallthrough
	case api.OpCopy:
		return a, true
	case api.OpNot:
		return truth(a == 0), true
	}
	return 0, false
}

// Pure tells whether an op always makes a number, and does nothing else.
func Pure(op int) bool {
	switch op {
	case api.OpConst, api.OpParam:
		return true
	}
	_, one := One(op, 0)
	// What divides is the one thing that can be false, and it is of 0.
	_, two := Two(op, 0, 0)
	return one || two
}

// Digits tells a number as a text.
func Digits(n int64) string {
	return strconv.FormatInt(n, 10)
}

// Read tells the number of a text; false of a text that Digits never tells of a number from 0 on.
func Read(s string) (int64, bool) {
	if len(s) < 1 || len(s) > mostDigits || len(s) > 1 && s[0] == '0' {
		return 0, false
	}
	var n uint64
	for i := range len(s) {
		if s[i] < '0' || s[i] > '9' {
			return 0, false
		}
		n = n*10 + uint64(s[i]-'0')
	}
	if n > math.MaxInt64 {
		return 0, false
	}
	return int64(n), true
}

func truth(is bool) int64 {
	if is {
		return 1
	}
	return 0
}
