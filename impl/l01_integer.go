package impl

import "strconv"

const MaxValue = 1000000000000

func FormatInt(n int) string {
	return strconv.Itoa(n)
}

func ParseInt(s string) (int, bool) {
	n, err := strconv.Atoi(s)
	if err != nil || !InRange(n, 0, MaxValue) {
		return 0, false
	}
	// Atoi also reads signs and leading zeros; only the form that FormatInt writes counts.
	if FormatInt(n) != s {
		return 0, false
	}
	return n, true
}

// The first number is a parameter of its own, so that there is always one to return.
func outermost(largest bool, first int, others ...int) int {
	chosen := first
	for _, n := range others {
		if largest && n > chosen || !largest && n < chosen {
			chosen = n
		}
	}
	return chosen
}

func Min(a int, b int) int {
	return outermost(false, a, b)
}

func Max(a int, b int) int {
	return outermost(true, a, b)
}

func CeilDiv(a int, b int) int {
	if !InRange(a, 0, MaxValue) || !InRange(b, 1, MaxValue) {
		return 0
	}
	// The sum cannot overflow: both numbers are at most MaxValue.
	return (a + b - 1) / b
}

func Mod(p int, q int) int {
	if !InRange(q, 1, MaxValue) {
		return 0
	}
	remainder := p % q
	// Go's remainder has the sign of p.
	if remainder < 0 {
		remainder += q
	}
	return remainder
}

func InRange(n int, low int, high int) bool {
	return low <= n && n <= high
}
