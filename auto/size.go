package auto

import (
	"strconv"
	"strings"

	"fretwork/api"
)

// base is the base of the numbers of which a product is put together: each has nine digits.
const base = 1_000_000_000

// Size answers the product of all numbers of x.Chain, in digits.
func Size(x api.Group) string {
	limbs := []uint64{1}
	factor := uint64(1)
	for _, n := range x.Chain {
		if n < 0 || n > api.MaxN {
			return ""
		}
		// Factors are gathered as long as the next one still leaves them below the base.
		factor *= uint64(n)
		if factor >= base/api.MaxN {
			limbs = times(limbs, factor)
			factor = 1
		}
	}
	return digits(times(limbs, factor))
}

// times is a number, the lowest nine digits first, times a factor below the base.
func times(limbs []uint64, factor uint64) []uint64 {
	if factor == 0 {
		return []uint64{0}
	}
	carry := uint64(0)
	for i, n := range limbs {
		n = n*factor + carry
		limbs[i], carry = n%base, n/base
	}
	if carry > 0 {
		limbs = append(limbs, carry)
	}
	return limbs
}

// digits is a number's digits, no 0 ahead of others.
func digits(limbs []uint64) string {
	var b strings.Builder
	for i := len(limbs) - 1; i >= 0; i-- {
		s := strconv.FormatUint(limbs[i], 10)
		if b.Len() > 0 {
			b.WriteString(strings.Repeat("0", 9-len(s)))
		}
		b.WriteString(s)
	}
	return b.String()
}
