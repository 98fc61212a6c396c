package exact

import (
	"math"
	"math/big"
	"math/rand"
	"strings"
	"testing"

	"pommel/api"
)

// bigNat returns the same number as a big.Int, limb by limb.
func bigNat(a nat) *big.Int {
	n := new(big.Int)
	for i := len(a) - 1; i >= 0; i-- {
		n.Lsh(n, 32).Or(n, big.NewInt(int64(a[i])))
	}
	return n
}

// someNat returns a number whose limbs are often at the ends of their range, where carries go wrong.
func someNat(r *rand.Rand, limbs int) nat {
	a := make(nat, r.Intn(limbs+1))
	for i := range a {
		switch r.Intn(5) {
		case 0:
			a[i] = 0
		case 1:
			a[i] = math.MaxUint32
		case 2:
			a[i] = 1 << 31
		case 3:
			a[i] = uint32(r.Intn(3))
		default:
			a[i] = r.Uint32()
		}
	}
	return trim(a)
}

func checkNat(t *testing.T, what string, got nat, want *big.Int) {
	t.Helper()
	if bigNat(got).Cmp(want) != 0 {
		t.Fatalf("%s = %s, want %s", what, bigNat(got), want)
	}
	if len(got) > 0 && got[len(got)-1] == 0 {
		t.Fatalf("%s has a leading limb 0", what)
	}
}

func TestNat(t *testing.T) {
	r := rand.New(rand.NewSource(1))
	for range 20000 {
		a, b := someNat(r, 8), someNat(r, 5)
		x, y := bigNat(a), bigNat(b)
		checkNat(t, "sum", addNat(a, b), new(big.Int).Add(x, y))
		checkNat(t, "product", mulNat(a, b), new(big.Int).Mul(x, y))
		if compareNat(a, b) != x.Cmp(y) {
			t.Fatalf("compare %s, %s = %d", x, y, compareNat(a, b))
		}
		if compareNat(a, b) >= 0 {
			checkNat(t, "difference", subNat(a, b), new(big.Int).Sub(x, y))
		}
		checkNat(t, "gcd", gcdNat(a, b), new(big.Int).GCD(nil, nil, x, y))
		if len(b) > 0 {
			quotient, rest := divNat(a, b)
			p, q := new(big.Int).QuoRem(x, y, new(big.Int))
			checkNat(t, "quotient", quotient, p)
			checkNat(t, "rest", rest, q)
		}
		if writeNat(a) != x.String() {
			t.Fatalf("written %s, want %s", writeNat(a), x)
		}
		checkNat(t, "read", readNat(x.String()), x)
	}
}

func TestNatLong(t *testing.T) {
	r := rand.New(rand.NewSource(2))
	for range 20 {
		a, b := someNat(r, 900), someNat(r, 400)
		x, y := bigNat(a), bigNat(b)
		if writeNat(a) != x.String() {
			t.Fatal("written wrongly")
		}
		checkNat(t, "read", readNat(x.String()), x)
		checkNat(t, "gcd", gcdNat(mulNat(a, b), b), y)
		if len(b) > 0 {
			quotient, rest := divNat(a, b)
			p, q := new(big.Int).QuoRem(x, y, new(big.Int))
			checkNat(t, "quotient", quotient, p)
			checkNat(t, "rest", rest, q)
		}
	}
}

func numOf(x *big.Rat) api.Num {
	return api.Num(strings.TrimSuffix(x.String(), "/1"))
}

// someRatio returns a number and the same one as a big.Rat.
func someRatio(t *testing.T, r *rand.Rand) (Ratio, *big.Rat) {
	top, bottom := bigNat(someNat(r, 3)), bigNat(someNat(r, 3))
	if r.Intn(2) == 0 {
		top.SetInt64(int64(r.Intn(9)))
	}
	if bottom.Sign() == 0 || r.Intn(2) == 0 {
		bottom.SetInt64(int64(r.Intn(9) + 1))
	}
	x := new(big.Rat).SetFrac(top, bottom)
	if r.Intn(2) == 0 {
		x.Neg(x)
	}
	a, ok := Read(numOf(x), api.MaxDigits)
	if !ok || a.Num() != numOf(x) {
		t.Fatalf("Read(%s) = %s, %t", numOf(x), a.Num(), ok)
	}
	return a, x
}

func TestRatio(t *testing.T) {
	r := rand.New(rand.NewSource(3))
	for range 20000 {
		a, x := someRatio(t, r)
		b, y := someRatio(t, r)
		check := func(what string, got Ratio, want *big.Rat) {
			if got.Num() != numOf(want) {
				t.Fatalf("%s of %s and %s = %s, want %s", what, x, y, got.Num(), want)
			}
		}
		check("sum", a.Plus(b), new(big.Rat).Add(x, y))
		check("difference", a.Minus(b), new(big.Rat).Sub(x, y))
		check("product", a.Times(b), new(big.Rat).Mul(x, y))
		check("negative", a.Negated(), new(big.Rat).Neg(x))
		if y.Sign() != 0 {
			check("quotient", a.Over(b), new(big.Rat).Quo(x, y))
		}
		if a.Sign() != x.Sign() || a.Compare(b) != x.Cmp(y) || a.Compare(a) != 0 {
			t.Fatalf("sign or order of %s and %s", x, y)
		}
	}
}

func TestWhole(t *testing.T) {
	for _, n := range []int{0, 1, -1, 1 << 32, -1 << 32, math.MaxInt, math.MinInt} {
		if got := Whole(n).Num(); got != api.Num(big.NewInt(int64(n)).String()) {
			t.Errorf("Whole(%d) = %s", n, got)
		}
	}
}

func TestZero(t *testing.T) {
	var zero Ratio
	five := Whole(5)
	if zero.Num() != "0" || zero.Negated().Num() != "0" || zero.Sign() != 0 || zero.Compare(Whole(0)) != 0 {
		t.Error("the zero value is not 0")
	}
	if zero.Plus(five).Num() != "5" || five.Minus(five).Num() != "0" || zero.Over(five).Num() != "0" || Whole(-5).Times(zero).Num() != "0" {
		t.Error("sums and products with 0")
	}
	if five.Over(zero).Num() != "0" {
		t.Error("a quotient by 0 is not 0")
	}
}

func TestRead(t *testing.T) {
	nines := strings.Repeat("9", 40)
	valid := []string{"0", "7", "-7", "10", "-12/5", "1/2", "-1/10", "2/3", nines, "-" + nines, nines + "/2", "1/" + nines, "-" + nines + "/1" + strings.Repeat("0", 39)}
	for _, s := range valid {
		if a, ok := Read(api.Num(s), 40); !ok || string(a.Num()) != s {
			t.Errorf("Read(%q) = %s, %t", s, a.Num(), ok)
		}
	}
	malformed := []string{"", "-", "/", "+1", "-0", "00", "01", "-01", "1/0", "1/1", "0/1", "0/2", "2/4", "-2/4", "6/3", "1/02", "1/-2", "-/2", "1/", "/2", "--1",
		"1//2", "1/2/3", " 1", "1 ", "1.0", "1e3", "0x1", "1_0", "\u0661", "a", "1/a", "\x00", nines + "9", "-" + nines + "9", "1/" + nines + "9"}
	for _, s := range malformed {
		if a, ok := Read(api.Num(s), 40); ok || a.Sign() != 0 {
			t.Errorf("Read(%q) = %s, %t", s, a.Num(), ok)
		}
	}
}

func TestReadLongest(t *testing.T) {
	nines := strings.Repeat("9", api.MaxDigits)
	eight := nines[:api.MaxDigits-1] + "8"
	if a, ok := Read(api.Num(nines+"/"+eight), api.MaxDigits); !ok || string(a.Num()) != nines+"/"+eight {
		t.Error("the longest numbers are not read")
	}
	if _, ok := Read(api.Num("1"+nines), api.MaxDigits); ok {
		t.Error("a number that is too long is read")
	}
	if _, ok := Read(api.Num(nines+"/3"), api.MaxDigits); ok {
		t.Error("a long number that is not in lowest terms is read")
	}
}
