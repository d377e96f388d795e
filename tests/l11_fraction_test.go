package tests

import (
	"math"
	"math/big"
	"math/rand"
	"slices"
	"strings"
	"testing"

	"loop.example/g03307/impl"
)

func fraction(top int, bottom int) impl.Fraction {
	return impl.Fraction{Top: top, Bottom: bottom}
}

// validFractions are fractions of all kinds, with the limits of Top and Bottom and their neighbors.
func validFractions() []impl.Fraction {
	numbers := []int{0, 1, 2, 3, 4, 5, 6, 9, 10, 16, 35, 64, 97, 100, 101, 625, 720, 4999, 5000, 5001, 9973, 9998, 9999, 10000}
	var fractions []impl.Fraction
	for _, top := range numbers {
		for _, bottom := range numbers {
			if plainFractionOk(top, bottom) {
				fractions = append(fractions, fraction(top, bottom))
			}
		}
	}
	return fractions
}

func invalidFractions() []impl.Fraction {
	return []impl.Fraction{
		{}, fraction(1, 0), fraction(2, 0), fraction(-1, 0), fraction(10000, 0), fraction(10001, 0),
		fraction(0, -1), fraction(1, -1), fraction(1, -2), fraction(-1, -1), fraction(-1, -2), fraction(10000, -1), fraction(10000, -10000),
		fraction(0, 10001), fraction(1, 10001), fraction(2, 10001), fraction(10000, 10001), fraction(10001, 10001), fraction(-1, 10001),
		fraction(-1, 1), fraction(-1, 2), fraction(-2, 1), fraction(-9999, 10000), fraction(-10000, 1), fraction(-1, 10000),
		fraction(10001, 1), fraction(10001, 2), fraction(10001, 10000), fraction(10001, 9999), fraction(20001, 10000),
		fraction(0, 2), fraction(0, 3), fraction(0, 10000), fraction(2, 2), fraction(3, 3), fraction(10000, 10000), fraction(9999, 9999),
		fraction(2, 4), fraction(4, 2), fraction(6, 9), fraction(35, 14), fraction(97, 9700), fraction(4999, 9998), fraction(9998, 4999), fraction(10000, 5000), fraction(9990, 9999),
		fraction(math.MinInt, 1), fraction(math.MinInt+1, 1), fraction(math.MaxInt, 1), fraction(math.MaxInt-1, 1),
		fraction(0, math.MinInt), fraction(1, math.MinInt), fraction(1, math.MinInt+1), fraction(0, math.MaxInt), fraction(1, math.MaxInt), fraction(1, math.MaxInt-1),
		fraction(math.MinInt, math.MinInt), fraction(math.MaxInt, math.MaxInt), fraction(math.MinInt, math.MaxInt), fraction(math.MaxInt, math.MinInt),
		fraction(math.MinInt, -1), fraction(math.MinInt, 0), fraction(math.MaxInt, 0), fraction(math.MaxInt, -1),
	}
}

// smallFractions are all valid fractions of numbers up to most.
func smallFractions(most int) []impl.Fraction {
	var fractions []impl.Fraction
	for top := 0; top <= most; top++ {
		for bottom := 1; bottom <= most; bottom++ {
			if plainFractionOk(top, bottom) {
				fractions = append(fractions, fraction(top, bottom))
			}
		}
	}
	return fractions
}

// someFraction has numbers up to most.
func someFraction(random *rand.Rand, most int) impl.Fraction {
	for {
		top, bottom := random.Intn(most+1), 1+random.Intn(most)
		if plainFractionOk(top, bottom) {
			return fraction(top, bottom)
		}
	}
}

func wrongAmounts() []int {
	return []int{math.MinInt, math.MinInt + 1, -1000000, -2, -1, 1000001, 1000002, 2000000, math.MaxInt - 1, math.MaxInt}
}

// plainFractionOk tries all numbers that could divide both.
func plainFractionOk(top int, bottom int) bool {
	if bottom < 1 || bottom > 10000 || top < 0 || top > 10000 {
		return false
	}
	for divisor := 2; divisor <= bottom; divisor++ {
		if top%divisor == 0 && bottom%divisor == 0 {
			return false
		}
	}
	return true
}

// exact is a fraction as the library counts it, which knows no limits. It needs a Bottom of at least 1.
func exact(f impl.Fraction) *big.Rat {
	return big.NewRat(int64(f.Top), int64(f.Bottom))
}

// isMade reports whether the results of a function that returns a fraction are want, or those of a failure if want is not valid.
func isMade(got impl.Fraction, ok bool, want *big.Rat) bool {
	limit := big.NewInt(10000)
	if want.Num().Cmp(limit) > 0 || want.Denom().Cmp(limit) > 0 {
		return isNotMade(got, ok)
	}
	return ok && got == fraction(int(want.Num().Int64()), int(want.Denom().Int64()))
}

func isNotMade(got impl.Fraction, ok bool) bool {
	return !ok && got == impl.Fraction{}
}

// checkMakeFraction holds MakeFraction against the library, for numbers within its limits.
func checkMakeFraction(t *testing.T, top int, bottom int) {
	t.Helper()
	want := big.NewRat(int64(top), int64(bottom))
	if made, ok := impl.MakeFraction(top, bottom); !isMade(made, ok, want) {
		t.Errorf("MakeFraction(%d, %d): %v, %v instead of %v", top, bottom, made, ok, want)
	}
}

func checkNoFraction(t *testing.T, top int, bottom int) {
	t.Helper()
	if made, ok := impl.MakeFraction(top, bottom); !isNotMade(made, ok) {
		t.Errorf("MakeFraction(%d, %d): %v, %v", top, bottom, made, ok)
	}
}

func TestFractionOk(t *testing.T) {
	for _, f := range slices.Concat(validFractions(), smallFractions(20)) {
		if !impl.FractionOk(f) {
			t.Errorf("%v is not valid", f)
		}
	}
	for _, f := range invalidFractions() {
		if impl.FractionOk(f) {
			t.Errorf("%v is valid", f)
		}
	}
}

func TestFractionLimits(t *testing.T) {
	cases := []struct {
		top, bottom int
		ok          bool
	}{
		{0, 1, true}, {1, 1, true}, {0, 2, false}, {2, 2, false}, {0, 0, false}, {1, 0, false}, {1, -1, false},
		{1, 2, true}, {2, 1, true}, {3, 2, true}, {2, 4, false}, {4, 2, false}, {6, 35, true}, {14, 35, false}, {35, 6, true}, {35, 14, false},
		{10000, 1, true}, {10001, 1, false}, {1, 10000, true}, {1, 10001, false}, {-1, 10000, false}, {-1, 1, false},
		{10000, 9999, true}, {9999, 10000, true}, {10001, 10000, false}, {10000, 10001, false}, {10000, 9998, false}, {9998, 10000, false},
		{10000, 10000, false}, {9999, 9999, false}, {0, 10000, false}, {10000, 0, false}, {9973, 10000, true}, {10000, 9973, true},
	}
	for _, c := range cases {
		if ok := impl.FractionOk(fraction(c.top, c.bottom)); ok != c.ok {
			t.Errorf("%d/%d: %v", c.top, c.bottom, ok)
		}
	}
}

// TestFractionOkNearTheLimits goes through all pairs of numbers near 0 and near 10000.
func TestFractionOkNearTheLimits(t *testing.T) {
	var numbers []int
	for n := -3; n <= 60; n++ {
		numbers = append(numbers, n)
	}
	for n := 9970; n <= 10005; n++ {
		numbers = append(numbers, n)
	}
	for _, top := range numbers {
		for _, bottom := range numbers {
			if ok := impl.FractionOk(fraction(top, bottom)); ok != plainFractionOk(top, bottom) {
				t.Errorf("%d/%d: %v", top, bottom, ok)
			}
		}
	}
}

// TestCommonDivisors multiplies both numbers of a fraction: it is not valid any more.
func TestCommonDivisors(t *testing.T) {
	for _, f := range slices.Concat(validFractions(), smallFractions(20)) {
		for _, divisor := range []int{2, 3, 5, 7, 49, 97, 100, 4999, 5000, 9973, 9999, 10000, 10001} {
			if times := fraction(f.Top*divisor, f.Bottom*divisor); impl.FractionOk(times) {
				t.Errorf("%v is valid", times)
			}
		}
	}
}

func TestMakeFraction(t *testing.T) {
	cases := []struct {
		top, bottom int
		made        impl.Fraction
		ok          bool
	}{
		{6, 8, fraction(3, 4), true}, {8, 6, fraction(4, 3), true}, {3, 4, fraction(3, 4), true}, {1, 1, fraction(1, 1), true}, {2, 2, fraction(1, 1), true},
		{1, 2, fraction(1, 2), true}, {12, 4, fraction(3, 1), true}, {4, 12, fraction(1, 3), true}, {30, 42, fraction(5, 7), true}, {1001, 91, fraction(11, 1), true},
		{0, 1, fraction(0, 1), true}, {0, 2, fraction(0, 1), true}, {0, 9999, fraction(0, 1), true}, {0, 10000, fraction(0, 1), true}, {0, 10001, fraction(0, 1), true}, {0, 100000000, fraction(0, 1), true},
		{10000, 1, fraction(10000, 1), true}, {10001, 1, impl.Fraction{}, false}, {1, 10000, fraction(1, 10000), true}, {1, 10001, impl.Fraction{}, false},
		{20000, 2, fraction(10000, 1), true}, {20002, 2, impl.Fraction{}, false}, {2, 20000, fraction(1, 10000), true}, {2, 20002, impl.Fraction{}, false},
		{30000, 29997, fraction(10000, 9999), true}, {29997, 30000, fraction(9999, 10000), true}, {30003, 30000, impl.Fraction{}, false}, {30000, 30003, impl.Fraction{}, false},
		{20001, 20000, impl.Fraction{}, false}, {20000, 20001, impl.Fraction{}, false}, {10001, 10001, fraction(1, 1), true}, {20002, 10001, fraction(2, 1), true},
		{100000000, 100000000, fraction(1, 1), true}, {100000000, 50000000, fraction(2, 1), true}, {50000000, 100000000, fraction(1, 2), true},
		{100000000, 10000, fraction(10000, 1), true}, {10000, 100000000, fraction(1, 10000), true}, {100000000, 99990000, fraction(10000, 9999), true}, {99990000, 100000000, fraction(9999, 10000), true},
		{100000000, 9999, impl.Fraction{}, false}, {9999, 100000000, impl.Fraction{}, false}, {100000000, 1, impl.Fraction{}, false}, {1, 100000000, impl.Fraction{}, false},
		{99999999, 100000000, impl.Fraction{}, false}, {100000000, 99999999, impl.Fraction{}, false}, {99999999, 99999999, fraction(1, 1), true}, {99999999, 9999, impl.Fraction{}, false}, {99990000, 9999, fraction(10000, 1), true},
	}
	for _, c := range cases {
		if made, ok := impl.MakeFraction(c.top, c.bottom); made != c.made || ok != c.ok {
			t.Errorf("MakeFraction(%d, %d): %v, %v", c.top, c.bottom, made, ok)
		}
	}
}

// TestInvalidMakeFraction takes numbers beyond the limits. Many of them would be valid fractions if they were reduced: 100000001 is 17 times 5882353.
func TestInvalidMakeFraction(t *testing.T) {
	wrongTops := []int{math.MinInt, math.MinInt + 1, -100000000, -2, -1, 100000001, 100000002, 200000000, math.MaxInt - 1, math.MaxInt}
	wrongBottoms := append(slices.Clone(wrongTops), 0)
	numbers := []int{1, 2, 3, 6, 7, 10000, 10001, 100000, 5882353, 99999999, 100000000}
	for _, top := range wrongTops {
		for _, bottom := range slices.Concat(numbers, wrongBottoms) {
			checkNoFraction(t, top, bottom)
		}
	}
	for _, bottom := range wrongBottoms {
		for _, top := range append(numbers, 0) {
			checkNoFraction(t, top, bottom)
		}
	}
}

// TestMadeFractions takes small numbers, multiples of the numbers of fractions that are valid or nearly so, and any numbers.
func TestMadeFractions(t *testing.T) {
	for top := range 60 {
		for bottom := 1; bottom <= 60; bottom++ {
			checkMakeFraction(t, top, bottom)
		}
	}
	random := rand.New(rand.NewSource(11))
	for range 5000 {
		times := 1 + random.Intn(9900)
		checkMakeFraction(t, random.Intn(10101)*times, (1+random.Intn(10100))*times)
		checkMakeFraction(t, random.Intn(100000001), 1+random.Intn(100000000))
	}
}

// TestMadeFractionsOfMultiples makes each valid fraction again out of all kinds of multiples.
func TestMadeFractionsOfMultiples(t *testing.T) {
	for _, f := range slices.Concat(validFractions(), smallFractions(20)) {
		for _, times := range []int{1, 2, 3, 7, 64, 97, 9999, 10000} {
			if made, ok := impl.MakeFraction(f.Top*times, f.Bottom*times); !ok || made != f {
				t.Errorf("MakeFraction(%d, %d): %v, %v", f.Top*times, f.Bottom*times, made, ok)
			}
		}
	}
}

type countedFraction struct {
	a, b impl.Fraction
	made impl.Fraction
	ok   bool
}

// checkCounted checks the cases of a function of two fractions, which may be exchanged.
func checkCounted(t *testing.T, name string, cases []countedFraction, count func(a impl.Fraction, b impl.Fraction) (impl.Fraction, bool)) {
	t.Helper()
	for _, c := range cases {
		if made, ok := count(c.a, c.b); made != c.made || ok != c.ok {
			t.Errorf("%s(%v, %v): %v, %v", name, c.a, c.b, made, ok)
		}
		if made, ok := count(c.b, c.a); made != c.made || ok != c.ok {
			t.Errorf("%s(%v, %v): %v, %v", name, c.b, c.a, made, ok)
		}
	}
}

func TestAddFractions(t *testing.T) {
	checkCounted(t, "AddFractions", []countedFraction{
		{fraction(1, 2), fraction(1, 3), fraction(5, 6), true}, {fraction(1, 4), fraction(2, 5), fraction(13, 20), true}, {fraction(3, 2), fraction(4, 3), fraction(17, 6), true},
		// The sum is reduced to 1.
		{fraction(1, 2), fraction(1, 2), fraction(1, 1), true}, {fraction(1, 3), fraction(2, 3), fraction(1, 1), true},
		{fraction(1, 10000), fraction(9999, 10000), fraction(1, 1), true}, {fraction(0, 1), fraction(1, 1), fraction(1, 1), true},
		// It is reduced to less, and to more.
		{fraction(1, 6), fraction(1, 3), fraction(1, 2), true}, {fraction(1, 10), fraction(1, 15), fraction(1, 6), true}, {fraction(1, 4), fraction(1, 4), fraction(1, 2), true}, {fraction(5, 6), fraction(7, 6), fraction(2, 1), true},
		{fraction(0, 1), fraction(0, 1), fraction(0, 1), true}, {fraction(0, 1), fraction(2, 7), fraction(2, 7), true}, {fraction(1, 1), fraction(1, 1), fraction(2, 1), true},
		{fraction(0, 1), fraction(10000, 1), fraction(10000, 1), true}, {fraction(0, 1), fraction(1, 10000), fraction(1, 10000), true}, {fraction(0, 1), fraction(10000, 9999), fraction(10000, 9999), true},
		// The Top of the sum is just valid, and just not.
		{fraction(9999, 1), fraction(1, 1), fraction(10000, 1), true}, {fraction(10000, 1), fraction(1, 1), impl.Fraction{}, false},
		{fraction(5000, 1), fraction(5000, 1), fraction(10000, 1), true}, {fraction(5000, 1), fraction(5001, 1), impl.Fraction{}, false},
		{fraction(5000, 3), fraction(5000, 3), fraction(10000, 3), true}, {fraction(5000, 3), fraction(1667, 1), impl.Fraction{}, false}, {fraction(10000, 1), fraction(1, 10000), impl.Fraction{}, false},
		{fraction(1, 10000), fraction(1, 1), impl.Fraction{}, false}, {fraction(1, 9999), fraction(1, 1), fraction(10000, 9999), true},
		{fraction(10000, 1), fraction(10000, 1), impl.Fraction{}, false}, {fraction(10000, 1), fraction(9999, 10000), impl.Fraction{}, false},
		// The Bottom is just valid, and just not.
		{fraction(1, 16), fraction(1, 625), fraction(641, 10000), true}, {fraction(1, 73), fraction(1, 137), impl.Fraction{}, false},
		{fraction(1, 99), fraction(1, 101), fraction(200, 9999), true}, {fraction(1, 10000), fraction(1, 5000), fraction(3, 10000), true},
		{fraction(1, 9999), fraction(1, 10000), impl.Fraction{}, false}, {fraction(1, 9999), fraction(1, 9998), impl.Fraction{}, false}, {fraction(1, 10000), fraction(1, 3), impl.Fraction{}, false},
		// With the product of both Bottoms, the top is greater than 100000000, or just this.
		{fraction(9999, 10000), fraction(9999, 10000), fraction(9999, 5000), true}, {fraction(9997, 10000), fraction(9999, 10000), fraction(4999, 2500), true}, {fraction(9998, 9999), fraction(10000, 9999), fraction(2, 1), true},
		{fraction(4999, 10000), fraction(5001, 10000), fraction(1, 1), true}, {fraction(5001, 10000), fraction(5003, 10000), fraction(2501, 2500), true},
		{fraction(10000, 9999), fraction(10000, 9999), impl.Fraction{}, false}, {fraction(10000, 9999), fraction(9999, 10000), impl.Fraction{}, false},
	}, impl.AddFractions)
}

func TestTimesFraction(t *testing.T) {
	checkCounted(t, "TimesFraction", []countedFraction{
		{fraction(1, 2), fraction(1, 3), fraction(1, 6), true}, {fraction(2, 3), fraction(4, 5), fraction(8, 15), true}, {fraction(3, 2), fraction(5, 4), fraction(15, 8), true},
		{fraction(2, 3), fraction(3, 2), fraction(1, 1), true}, {fraction(2, 3), fraction(3, 4), fraction(1, 2), true}, {fraction(4, 3), fraction(9, 2), fraction(6, 1), true}, {fraction(1, 2), fraction(1, 2), fraction(1, 4), true},
		{fraction(0, 1), fraction(0, 1), fraction(0, 1), true}, {fraction(0, 1), fraction(3, 7), fraction(0, 1), true},
		{fraction(0, 1), fraction(1, 10000), fraction(0, 1), true}, {fraction(0, 1), fraction(10000, 9999), fraction(0, 1), true},
		{fraction(1, 1), fraction(1, 1), fraction(1, 1), true}, {fraction(1, 1), fraction(3, 7), fraction(3, 7), true},
		{fraction(1, 1), fraction(10000, 9999), fraction(10000, 9999), true}, {fraction(1, 1), fraction(9999, 10000), fraction(9999, 10000), true},
		// The Top of the product is just valid, and just not.
		{fraction(100, 1), fraction(100, 1), fraction(10000, 1), true}, {fraction(73, 1), fraction(137, 1), impl.Fraction{}, false},
		{fraction(10000, 1), fraction(1, 1), fraction(10000, 1), true}, {fraction(10000, 1), fraction(2, 1), impl.Fraction{}, false},
		{fraction(10000, 3), fraction(3, 7), fraction(10000, 7), true}, {fraction(100, 3), fraction(100, 7), fraction(10000, 21), true}, {fraction(73, 3), fraction(137, 7), impl.Fraction{}, false},
		// The Bottom is just valid, and just not.
		{fraction(1, 100), fraction(1, 100), fraction(1, 10000), true}, {fraction(1, 73), fraction(1, 137), impl.Fraction{}, false},
		{fraction(1, 10000), fraction(1, 1), fraction(1, 10000), true}, {fraction(1, 10000), fraction(1, 2), impl.Fraction{}, false},
		{fraction(3, 10000), fraction(7, 3), fraction(7, 10000), true}, {fraction(3, 100), fraction(7, 100), fraction(21, 10000), true}, {fraction(3, 73), fraction(7, 137), impl.Fraction{}, false},
		// Both tops or both bottoms together are 100000000.
		{fraction(10000, 1), fraction(10000, 1), impl.Fraction{}, false}, {fraction(1, 10000), fraction(1, 10000), impl.Fraction{}, false},
		{fraction(10000, 1), fraction(1, 10000), fraction(1, 1), true}, {fraction(10000, 9999), fraction(9999, 10000), fraction(1, 1), true},
		{fraction(10000, 9999), fraction(10000, 9999), impl.Fraction{}, false}, {fraction(9999, 10000), fraction(9999, 10000), impl.Fraction{}, false},
		{fraction(9999, 10000), fraction(10000, 9973), fraction(9999, 9973), true}, {fraction(10000, 9999), fraction(9999, 1), fraction(10000, 1), true},
	}, impl.TimesFraction)
}

func TestCompareFractions(t *testing.T) {
	cases := []struct {
		a, b  impl.Fraction
		order int
	}{
		{fraction(1, 2), fraction(1, 3), 1}, {fraction(1, 2), fraction(2, 3), -1}, {fraction(1, 2), fraction(1, 2), 0}, {fraction(3, 2), fraction(4, 3), 1}, {fraction(2, 1), fraction(3, 2), 1},
		{fraction(0, 1), fraction(0, 1), 0}, {fraction(1, 1), fraction(1, 1), 0}, {fraction(0, 1), fraction(1, 1), -1}, {fraction(0, 1), fraction(1, 10000), -1}, {fraction(1, 10000), fraction(10000, 1), -1},
		{fraction(10000, 1), fraction(9999, 1), 1}, {fraction(10000, 1), fraction(10000, 1), 0}, {fraction(1, 9999), fraction(1, 10000), 1}, {fraction(1, 10000), fraction(1, 10000), 0},
		{fraction(9999, 10000), fraction(1, 1), -1}, {fraction(10000, 9999), fraction(1, 1), 1}, {fraction(9999, 10000), fraction(10000, 9999), -1}, {fraction(10000, 9999), fraction(10000, 9999), 0},
		// A greater Top with a greater Bottom.
		{fraction(5, 7), fraction(2, 3), 1}, {fraction(5, 8), fraction(2, 3), -1}, {fraction(7, 100), fraction(6, 83), -1},
		// The products differ by one.
		{fraction(9999, 10000), fraction(9998, 9999), 1}, {fraction(10000, 9999), fraction(9999, 9998), -1}, {fraction(5000, 9999), fraction(4999, 9997), -1},
		{fraction(9998, 9997), fraction(9999, 9998), 1}, {fraction(3333, 10000), fraction(1, 3), -1}, {fraction(10000, 3), fraction(3333, 1), 1},
	}
	for _, c := range cases {
		if order := impl.CompareFractions(c.a, c.b); order != c.order {
			t.Errorf("CompareFractions(%v, %v): %d", c.a, c.b, order)
		}
		if order := impl.CompareFractions(c.b, c.a); order != -c.order {
			t.Errorf("CompareFractions(%v, %v): %d", c.b, c.a, order)
		}
	}
}

// TestInvalidPairs checks the fixed results if the first fraction, the second one or both are not valid.
func TestInvalidPairs(t *testing.T) {
	check := func(a impl.Fraction, b impl.Fraction) {
		if sum, ok := impl.AddFractions(a, b); !isNotMade(sum, ok) {
			t.Errorf("AddFractions(%v, %v): %v, %v", a, b, sum, ok)
		}
		if product, ok := impl.TimesFraction(a, b); !isNotMade(product, ok) {
			t.Errorf("TimesFraction(%v, %v): %v, %v", a, b, product, ok)
		}
		if order := impl.CompareFractions(a, b); order != 0 {
			t.Errorf("CompareFractions(%v, %v): %d", a, b, order)
		}
	}
	for _, wrong := range invalidFractions() {
		for _, f := range validFractions() {
			check(wrong, f)
			check(f, wrong)
		}
		for _, other := range invalidFractions() {
			check(wrong, other)
		}
	}
}

// checkPair holds all functions of two fractions against the library.
func checkPair(t *testing.T, a impl.Fraction, b impl.Fraction) {
	t.Helper()
	if sum, ok := impl.AddFractions(a, b); !isMade(sum, ok, new(big.Rat).Add(exact(a), exact(b))) {
		t.Errorf("AddFractions(%v, %v): %v, %v", a, b, sum, ok)
	}
	if product, ok := impl.TimesFraction(a, b); !isMade(product, ok, new(big.Rat).Mul(exact(a), exact(b))) {
		t.Errorf("TimesFraction(%v, %v): %v, %v", a, b, product, ok)
	}
	if order := impl.CompareFractions(a, b); order != exact(a).Cmp(exact(b)) {
		t.Errorf("CompareFractions(%v, %v): %d", a, b, order)
	}
}

func TestPairsOfFractions(t *testing.T) {
	for _, fractions := range [][]impl.Fraction{validFractions(), smallFractions(12)} {
		for _, a := range fractions {
			for _, b := range fractions {
				checkPair(t, a, b)
			}
		}
	}
	random := rand.New(rand.NewSource(12))
	for _, most := range []int{30, 100, 300, 10000} {
		for range 2000 {
			checkPair(t, someFraction(random, most), someFraction(random, most))
		}
	}
}

// TestFractionsInAnyOrder is the first half of promise 11, for two fractions.
func TestFractionsInAnyOrder(t *testing.T) {
	fractions := append(validFractions(), invalidFractions()...)
	for _, a := range fractions {
		for _, b := range fractions {
			sum, ok := impl.AddFractions(a, b)
			turnedSum, turnedOk := impl.AddFractions(b, a)
			if sum != turnedSum || ok != turnedOk {
				t.Errorf("AddFractions(%v, %v): %v, %v, and exchanged %v, %v", a, b, sum, ok, turnedSum, turnedOk)
			}
			product, ok := impl.TimesFraction(a, b)
			turnedProduct, turnedOk := impl.TimesFraction(b, a)
			if product != turnedProduct || ok != turnedOk {
				t.Errorf("TimesFraction(%v, %v): %v, %v, and exchanged %v, %v", a, b, product, ok, turnedProduct, turnedOk)
			}
		}
	}
}

// countAll counts all fractions together, one after the other, beginning with the first one.
func countAll(fractions []impl.Fraction, count func(a impl.Fraction, b impl.Fraction) (impl.Fraction, bool)) (impl.Fraction, bool) {
	total, ok := fractions[0], true
	for _, f := range fractions[1:] {
		if total, ok = count(total, f); !ok {
			return impl.Fraction{}, false
		}
	}
	return total, true
}

// TestManyFractionsInAnyOrder is the first half of promise 11, for more fractions: wherever no step fails, the order makes no difference.
func TestManyFractionsInAnyOrder(t *testing.T) {
	random := rand.New(rand.NewSource(13))
	sums, products := 0, 0
	for range 4000 {
		fractions := make([]impl.Fraction, 2+random.Intn(5))
		for i := range fractions {
			fractions[i] = someFraction(random, 4+random.Intn(8))
		}
		sum, added := countAll(fractions, impl.AddFractions)
		product, multiplied := countAll(fractions, impl.TimesFraction)
		for range 5 {
			random.Shuffle(len(fractions), func(i int, k int) { fractions[i], fractions[k] = fractions[k], fractions[i] })
			if other, ok := countAll(fractions, impl.AddFractions); added && ok {
				sums++
				if other != sum {
					t.Errorf("the sum of %v: %v, and in another order %v", fractions, other, sum)
				}
			}
			if other, ok := countAll(fractions, impl.TimesFraction); multiplied && ok {
				products++
				if other != product {
					t.Errorf("the product of %v: %v, and in another order %v", fractions, other, product)
				}
			}
		}
	}
	if sums < 1000 || products < 1000 {
		t.Errorf("only %d sums and %d products", sums, products)
	}
}

// TestGroupsOfFractions adds and multiplies three fractions in groups. The numbers are so small that no step fails.
func TestGroupsOfFractions(t *testing.T) {
	add := func(a impl.Fraction, b impl.Fraction) impl.Fraction {
		sum, ok := impl.AddFractions(a, b)
		if !ok {
			t.Errorf("AddFractions(%v, %v) fails", a, b)
		}
		return sum
	}
	times := func(a impl.Fraction, b impl.Fraction) impl.Fraction {
		product, ok := impl.TimesFraction(a, b)
		if !ok {
			t.Errorf("TimesFraction(%v, %v) fails", a, b)
		}
		return product
	}
	for _, a := range smallFractions(6) {
		for _, b := range smallFractions(6) {
			for _, c := range smallFractions(6) {
				if add(add(a, b), c) != add(a, add(b, c)) {
					t.Errorf("%v, %v and %v have several sums", a, b, c)
				}
				if times(times(a, b), c) != times(a, times(b, c)) {
					t.Errorf("%v, %v and %v have several products", a, b, c)
				}
				if times(a, add(b, c)) != add(times(a, b), times(a, c)) {
					t.Errorf("%v times the sum of %v and %v is not the sum of the products", a, b, c)
				}
			}
		}
	}
}

// TestSumsNeverBecomeLess is the second half of promise 11: a sum is only as small as one of both if the other one is 0.
func TestSumsNeverBecomeLess(t *testing.T) {
	sums := 0
	for _, fractions := range [][]impl.Fraction{validFractions(), smallFractions(12)} {
		for _, a := range fractions {
			for _, b := range fractions {
				sum, ok := impl.AddFractions(a, b)
				if !ok {
					continue
				}
				sums++
				if order := impl.CompareFractions(sum, a); order != min(b.Top, 1) {
					t.Errorf("%v and %v are %v, which compared with the first one is %d", a, b, sum, order)
				}
			}
		}
	}
	if sums < 10000 {
		t.Errorf("only %d sums", sums)
	}
}

// TestPartsOfFractions checks that a part of a fraction is never more than it, and more than the whole of it never less.
func TestPartsOfFractions(t *testing.T) {
	for _, fractions := range [][]impl.Fraction{validFractions(), smallFractions(12)} {
		for _, a := range fractions {
			for _, b := range fractions {
				product, ok := impl.TimesFraction(a, b)
				if !ok {
					continue
				}
				want := impl.CompareFractions(b, fraction(1, 1))
				if a.Top == 0 {
					want = 0
				}
				if order := impl.CompareFractions(product, a); order != want {
					t.Errorf("%v times %v is %v, which compared with the first one is %d", a, b, product, order)
				}
			}
		}
	}
}

// TestOrderOfFractions checks that fractions which are sorted stand in the same order as their quotients, each one different from the next one.
func TestOrderOfFractions(t *testing.T) {
	fractions := validFractions()
	slices.SortFunc(fractions, impl.CompareFractions)
	for i, f := range fractions[1:] {
		if exact(fractions[i]).Cmp(exact(f)) >= 0 {
			t.Errorf("%v stands before %v", fractions[i], f)
		}
	}
}

func TestPartOf(t *testing.T) {
	cases := []struct {
		f            impl.Fraction
		amount, part int
	}{
		{fraction(1, 3), 100, 33}, {fraction(2, 3), 100, 66}, {fraction(1, 3), 99, 33}, {fraction(1, 3), 98, 32}, {fraction(1, 3), 101, 33}, {fraction(1, 3), 102, 34},
		{fraction(1, 2), 1, 0}, {fraction(1, 2), 2, 1}, {fraction(1, 2), 3, 1}, {fraction(3, 2), 1, 1}, {fraction(3, 2), 3, 4}, {fraction(7, 3), 100, 233}, {fraction(5, 1), 20, 100},
		{fraction(0, 1), 0, 0}, {fraction(0, 1), 7, 0}, {fraction(0, 1), 1000000, 0}, {fraction(1, 1), 0, 0}, {fraction(1, 1), 7, 7}, {fraction(1, 1), 1000000, 1000000},
		{fraction(1, 3), 0, 0}, {fraction(10000, 1), 0, 0}, {fraction(10000, 9999), 0, 0}, {fraction(1, 3), 1000000, 333333}, {fraction(2, 3), 1000000, 666666}, {fraction(1, 8), 1000000, 125000},
		{fraction(10000, 1), 1, 10000}, {fraction(10000, 1), 1000000, 10000000000}, {fraction(1, 10000), 1000000, 100},
		{fraction(1, 10000), 9999, 0}, {fraction(1, 10000), 10000, 1}, {fraction(1, 10000), 19999, 1}, {fraction(1, 10000), 999999, 99},
		{fraction(9999, 10000), 1, 0}, {fraction(9999, 10000), 10000, 9999}, {fraction(9999, 10000), 9999, 9998},
		{fraction(9999, 10000), 1000000, 999900}, {fraction(10000, 9999), 9998, 9998}, {fraction(10000, 9999), 9999, 10000}, {fraction(10000, 9999), 1000000, 1000100},
	}
	for _, c := range cases {
		if part := impl.PartOf(c.f, c.amount); part != c.part {
			t.Errorf("PartOf(%v, %d): %d", c.f, c.amount, part)
		}
	}
}

func someAmounts() []int {
	return []int{0, 1, 2, 3, 7, 99, 100, 101, 720, 4999, 5000, 9999, 10000, 10001, 123456, 999999, 1000000}
}

func TestInvalidPartOf(t *testing.T) {
	for _, wrong := range invalidFractions() {
		for _, amount := range slices.Concat(someAmounts(), wrongAmounts()) {
			if part := impl.PartOf(wrong, amount); part != -1 {
				t.Errorf("PartOf(%v, %d): %d", wrong, amount, part)
			}
		}
	}
	for _, f := range validFractions() {
		for _, amount := range wrongAmounts() {
			if part := impl.PartOf(f, amount); part != -1 {
				t.Errorf("PartOf(%v, %d): %d", f, amount, part)
			}
		}
	}
}

// TestPartsAreRoundedDown checks that a part is not more than the fraction of the amount, and one more would be.
func TestPartsAreRoundedDown(t *testing.T) {
	for _, f := range append(validFractions(), smallFractions(12)...) {
		before := 0
		for _, amount := range someAmounts() {
			part := impl.PartOf(f, amount)
			if left := amount*f.Top - part*f.Bottom; left < 0 || left >= f.Bottom {
				t.Errorf("PartOf(%v, %d): %d", f, amount, part)
			}
			if part < before {
				t.Errorf("PartOf(%v, %d) is less than of a lesser amount: %d", f, amount, part)
			}
			before = part
		}
	}
}

// TestPartsOfSums checks that two parts together are the part of the sum, or one less, as both are rounded down.
func TestPartsOfSums(t *testing.T) {
	for _, a := range smallFractions(12) {
		for _, b := range smallFractions(12) {
			sum, ok := impl.AddFractions(a, b)
			for _, amount := range someAmounts() {
				left := impl.PartOf(sum, amount) - impl.PartOf(a, amount) - impl.PartOf(b, amount)
				if !ok || left != 0 && left != 1 {
					t.Errorf("the parts %v and %v of %d leave %d", a, b, amount, left)
				}
			}
		}
	}
}

func TestFractionText(t *testing.T) {
	cases := []struct {
		f    impl.Fraction
		text string
	}{
		{fraction(5, 6), "5/6"}, {fraction(1, 2), "1/2"}, {fraction(7, 2), "7/2"}, {fraction(2, 1), "2"}, {fraction(10, 1), "10"}, {fraction(0, 1), "0"}, {fraction(1, 1), "1"},
		{fraction(10000, 1), "10000"}, {fraction(1, 10000), "1/10000"}, {fraction(10000, 9999), "10000/9999"}, {fraction(9999, 10000), "9999/10000"}, {fraction(1, 10), "1/10"}, {fraction(11, 100), "11/100"},
	}
	for _, c := range cases {
		if text := impl.FractionText(c.f); text != c.text {
			t.Errorf("FractionText(%v): %q", c.f, text)
		}
	}
	for _, wrong := range invalidFractions() {
		if text := impl.FractionText(wrong); text != "" {
			t.Errorf("FractionText(%v): %q", wrong, text)
		}
	}
}

// TestFractionsAreRead reads each text back: its numbers, or 1 for a Bottom that is not written.
func TestFractionsAreRead(t *testing.T) {
	for _, f := range append(validFractions(), smallFractions(12)...) {
		text := impl.FractionText(f)
		top, bottom, parted := strings.Cut(text, "/")
		if !parted {
			bottom = "1"
		}
		readTop, okTop := impl.ParseUint(top)
		readBottom, okBottom := impl.ParseUint(bottom)
		if !okTop || !okBottom || f != fraction(readTop, readBottom) || parted && readBottom == 1 {
			t.Errorf("FractionText(%v): %q", f, text)
		}
	}
}

// TestFractionsAreNotChanged calls each function with fractions of one list, and then again: each call gives the same.
func TestFractionsAreNotChanged(t *testing.T) {
	type results struct {
		valid                bool
		sum, product, made   impl.Fraction
		added, times, madeOk bool
		order, part          int
		text                 string
	}
	fractions := append(validFractions(), invalidFractions()...)
	before := slices.Clone(fractions)
	call := func(i int) results {
		a, b := fractions[i], fractions[len(fractions)-1-i]
		r := results{valid: impl.FractionOk(a), order: impl.CompareFractions(a, b), part: impl.PartOf(a, 100), text: impl.FractionText(a)}
		r.sum, r.added = impl.AddFractions(a, b)
		r.product, r.times = impl.TimesFraction(a, b)
		r.made, r.madeOk = impl.MakeFraction(a.Top, a.Bottom)
		return r
	}
	var first []results
	for i := range fractions {
		first = append(first, call(i))
	}
	for i := range fractions {
		if again := call(i); again != first[i] {
			t.Errorf("a second call gives %v instead of %v", again, first[i])
		}
	}
	if !slices.Equal(fractions, before) {
		t.Errorf("the fractions have become %v", fractions)
	}
}
