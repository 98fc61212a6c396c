// Package exact computes with rational numbers of any size, and reads and writes them as api.Num.
package exact

import (
	"strings"

	"pommel/api"
)

// Ratio is a rational number in lowest terms; its zero value is 0.
type Ratio struct {
	below  bool // whether it is below 0
	top    nat
	bottom nat // nil if it is 1, so that each number has one form
}

// Whole returns a whole number.
func Whole(n int) Ratio {
	if n < 0 {
		return Ratio{below: true, top: natOf(-uint64(n))} // the least int has no counterpart above 0 as an int
	}
	return Ratio{top: natOf(uint64(n))}
}

// lowest returns a fraction in lowest terms; its bottom is not 0.
func lowest(below bool, top, bottom nat) Ratio {
	if len(top) == 0 {
		return Ratio{}
	}
	common := gcdNat(top, bottom)
	if !isOne(common) {
		top, _ = divNat(top, common)
		bottom, _ = divNat(bottom, common)
	}
	return inLowest(below, top, bottom)
}

// inLowest returns a fraction that is in lowest terms, and not 0.
func inLowest(below bool, top, bottom nat) Ratio {
	if isOne(bottom) {
		bottom = nil
	}
	return Ratio{below: below, top: top, bottom: bottom}
}

func (r Ratio) denominator() nat {
	if len(r.bottom) == 0 {
		return nat{1}
	}
	return r.bottom
}

// Sign returns -1, 0 or 1, like the number.
func (r Ratio) Sign() int {
	switch {
	case r.below:
		return -1
	case len(r.top) == 0:
		return 0
	}
	return 1
}

// Negated returns the number with the other sign.
func (r Ratio) Negated() Ratio {
	return Ratio{below: !r.below && len(r.top) > 0, top: r.top, bottom: r.bottom}
}

// Plus returns the sum. What it has in common with its denominator divides what the denominators have in common, which is often small:
// so no common divisor of two great numbers has to be found.
func (r Ratio) Plus(o Ratio) Ratio {
	common := gcdNat(r.denominator(), o.denominator())
	own, _ := divNat(r.denominator(), common)
	others, _ := divNat(o.denominator(), common)
	below, top := addSigned(r.below, mulNat(r.top, others), o.below, mulNat(o.top, own))
	sum := lowest(below, top, common)
	if sum.Sign() == 0 {
		return sum
	}
	return inLowest(sum.below, sum.top, mulNat(sum.denominator(), mulNat(own, others)))
}

// addSigned adds two numbers of which is told whether they are below 0, and tells it of the sum.
func addSigned(aBelow bool, a nat, bBelow bool, b nat) (bool, nat) {
	switch {
	case aBelow == bBelow:
		return aBelow, addNat(a, b)
	case compareNat(a, b) >= 0:
		return aBelow, subNat(a, b)
	}
	return bBelow, subNat(b, a)
}

// Minus returns the difference.
func (r Ratio) Minus(o Ratio) Ratio {
	return r.Plus(o.Negated())
}

// Times returns the product.
func (r Ratio) Times(o Ratio) Ratio {
	return lowest(r.below != o.below, mulNat(r.top, o.top), mulNat(r.denominator(), o.denominator()))
}

// Over returns the quotient; it is 0 if o is 0, so that no arguments let it panic.
func (r Ratio) Over(o Ratio) Ratio {
	if len(o.top) == 0 {
		return Ratio{}
	}
	return lowest(r.below != o.below, mulNat(r.top, o.denominator()), mulNat(r.denominator(), o.top))
}

// Compare returns -1, 0 or 1 if r is less than, equal to or greater than o.
func (r Ratio) Compare(o Ratio) int {
	return r.Minus(o).Sign()
}

// Num writes the number.
func (r Ratio) Num() api.Num {
	text := writeNat(r.top)
	if r.below {
		text = "-" + text
	}
	if len(r.bottom) > 0 {
		text += "/" + writeNat(r.bottom)
	}
	return api.Num(text)
}

// Read reads a valid Num whose numerator and denominator have at most so many digits each; of others it returns false.
func Read(n api.Num, digits int) (Ratio, bool) {
	text, below := strings.CutPrefix(string(n), "-")
	top, bottom, broken := strings.Cut(text, "/")
	if !broken {
		bottom = "1"
	}
	if !isCount(top, digits) || !isCount(bottom, digits) {
		return Ratio{}, false
	}
	if top == "0" && below || broken && (bottom == "0" || bottom == "1") {
		return Ratio{}, false
	}
	a, b := readNat(top), readNat(bottom)
	if !isOne(gcdNat(a, b)) {
		return Ratio{}, false
	}
	return lowest(below, a, b), true
}

// isCount reports whether a text is 1 or more decimal digits, but not too many, without a leading zero.
func isCount(text string, digits int) bool {
	if len(text) == 0 || len(text) > digits || len(text) > 1 && text[0] == '0' {
		return false
	}
	for _, c := range []byte(text) {
		if c < '0' || c > '9' {
			return false
		}
	}
	return true
}
