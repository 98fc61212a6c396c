package exact

import (
	"cmp"
	"math/bits"
	"slices"
	"strconv"
	"strings"
)

// chunk is as many decimal digits as always fit into a limb.
const chunk = 9

// chunkBase is 10 to the power of chunk.
const chunkBase = 1000000000

// nat is a whole number from 0 on, in limbs of 32 bits, the lowest one first.
// The last limb is not 0, so each number has one form; a nat is never written to once it is made.
type nat []uint32

func natOf(n uint64) nat {
	return trim(nat{uint32(n), uint32(n >> 32)})
}

func trim(a nat) nat {
	for len(a) > 0 && a[len(a)-1] == 0 {
		a = a[:len(a)-1]
	}
	return a
}

func isOne(a nat) bool {
	return len(a) == 1 && a[0] == 1
}

func compareNat(a, b nat) int {
	if len(a) != len(b) {
		return cmp.Compare(len(a), len(b))
	}
	for i := len(a) - 1; i >= 0; i-- {
		if a[i] != b[i] {
			return cmp.Compare(a[i], b[i])
		}
	}
	return 0
}

func addNat(a, b nat) nat {
	if len(a) < len(b) {
		a, b = b, a
	}
	sum := make(nat, len(a)+1)
	carry := uint64(0)
	for i, limb := range a {
		carry += uint64(limb)
		if i < len(b) {
			carry += uint64(b[i])
		}
		sum[i] = uint32(carry)
		carry >>= 32
	}
	sum[len(a)] = uint32(carry)
	return trim(sum)
}

// subNat returns a minus b, of which b is not the greater one.
func subNat(a, b nat) nat {
	rest := make(nat, len(a))
	borrow := uint64(0)
	for i, limb := range a {
		taken := borrow
		if i < len(b) {
			taken += uint64(b[i])
		}
		left := uint64(limb) - taken
		rest[i] = uint32(left)
		borrow = left >> 63 // a difference below 0 wraps around to one with the highest bit set
	}
	return trim(rest)
}

func mulNat(a, b nat) nat {
	product := make(nat, len(a)+len(b))
	for i, x := range a {
		carry := uint64(0)
		for j, y := range b {
			carry += uint64(x)*uint64(y) + uint64(product[i+j])
			product[i+j] = uint32(carry)
			carry >>= 32
		}
		product[i+len(b)] = uint32(carry)
	}
	return trim(product)
}

// mulAddSmall returns a times factor plus more.
func mulAddSmall(a nat, factor, more uint32) nat {
	sum := make(nat, len(a)+1)
	carry := uint64(more)
	for i, limb := range a {
		carry += uint64(limb) * uint64(factor)
		sum[i] = uint32(carry)
		carry >>= 32
	}
	sum[len(a)] = uint32(carry)
	return trim(sum)
}

// divSmall returns the quotient and the remainder of a and b, which is not 0.
func divSmall(a nat, b uint32) (nat, uint32) {
	quotient := make(nat, len(a))
	rest := uint64(0)
	for i := len(a) - 1; i >= 0; i-- {
		rest = rest<<32 | uint64(a[i])
		quotient[i] = uint32(rest / uint64(b))
		rest %= uint64(b)
	}
	return trim(quotient), uint32(rest)
}

// divNat returns the quotient and the remainder of a and b, which is not 0.
func divNat(a, b nat) (nat, nat) {
	if compareNat(a, b) < 0 {
		return nil, a
	}
	if len(b) == 1 {
		quotient, rest := divSmall(a, b[0])
		return quotient, natOf(uint64(rest))
	}
	// With the highest bit of the divisor set, a digit that is guessed from two limbs is at most 2 too great.
	shift := bits.LeadingZeros32(b[len(b)-1])
	by := trim(shiftLeft(b, shift))
	from := shiftLeft(a, shift)
	quotient := make(nat, len(a)-len(b)+1)
	for i := len(quotient) - 1; i >= 0; i-- {
		quotient[i] = divStep(from[i:i+len(by)+1], by)
	}
	return trim(quotient), trim(shiftRight(from[:len(by)], shift))
}

// divStep returns how often by is contained in from, less than 2^32 times, and takes it away from there.
func divStep(from, by nat) uint32 {
	n := len(by)
	high := uint64(by[n-1])
	top := uint64(from[n])<<32 | uint64(from[n-1])
	digit, rest := top/high, top%high
	for rest < 1<<32 && (digit >= 1<<32 || digit*uint64(by[n-2]) > rest<<32|uint64(from[n-2])) {
		digit--
		rest += high
	}
	if takeAway(from, by, digit) {
		digit--
		giveBack(from, by)
	}
	return uint32(digit)
}

// takeAway subtracts a multiple in place, and reports whether the difference is below 0 (it then wraps around).
func takeAway(from, by nat, times uint64) bool {
	carry, borrow := uint64(0), uint64(0)
	for i, limb := range by {
		carry += uint64(limb) * times
		left := uint64(from[i]) - uint64(uint32(carry)) - borrow
		from[i] = uint32(left)
		borrow = left >> 63
		carry >>= 32
	}
	left := uint64(from[len(by)]) - carry - borrow
	from[len(by)] = uint32(left)
	return left>>63 == 1
}

// giveBack adds in place; the carry beyond the last limb undoes the wraparound of takeAway.
func giveBack(to, by nat) {
	carry := uint64(0)
	for i, limb := range by {
		carry += uint64(to[i]) + uint64(limb)
		to[i] = uint32(carry)
		carry >>= 32
	}
	to[len(by)] += uint32(carry)
}

// shiftLeft shifts by less than 32 bits, into one limb more.
func shiftLeft(a nat, shift int) nat {
	out := make(nat, len(a)+1)
	for i, limb := range a {
		wide := uint64(limb) << shift
		out[i] |= uint32(wide)
		out[i+1] = uint32(wide >> 32)
	}
	return out
}

// shiftRight shifts by less than 32 bits.
func shiftRight(a nat, shift int) nat {
	out := make(nat, len(a))
	carry := uint64(0)
	for i := len(a) - 1; i >= 0; i-- {
		wide := carry<<32 | uint64(a[i])
		out[i] = uint32(wide >> shift)
		carry = uint64(a[i])
	}
	return out
}

func gcdNat(a, b nat) nat {
	for len(b) > 0 {
		_, rest := divNat(a, b)
		a, b = b, rest
	}
	return a
}

// readNat reads decimal digits.
func readNat(digits string) nat {
	var a nat
	for len(digits) > 0 {
		size := (len(digits)-1)%chunk + 1 // what does not fill a chunk comes first
		value, base := uint32(0), uint32(1)
		for _, c := range []byte(digits[:size]) {
			value = value*10 + uint32(c-'0')
			base *= 10
		}
		a = mulAddSmall(a, base, value)
		digits = digits[size:]
	}
	return a
}

// writeNat writes decimal digits.
func writeNat(a nat) string {
	if len(a) == 0 {
		return "0"
	}
	var chunks []string
	for len(a) > 0 {
		quotient, rest := divSmall(a, chunkBase)
		digits := strconv.Itoa(int(rest))
		if len(quotient) > 0 {
			digits = strings.Repeat("0", chunk-len(digits)) + digits
		}
		chunks = append(chunks, digits)
		a = quotient
	}
	slices.Reverse(chunks)
	return strings.Join(chunks, "")
}
