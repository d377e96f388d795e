package tests

import (
	"math"
	"math/big"
	"math/rand"
	"slices"
	"sync"
	"testing"

	"loop.example/g03307/impl"
)

func right(owner int, top int, bottom int) impl.Right {
	return impl.Right{Owner: owner, Share: fraction(top, bottom)}
}

func rights(list ...impl.Right) []impl.Right {
	return list
}

// threeRights have free numbers ahead of all Owners, between them and behind them.
func threeRights() []impl.Right {
	return rights(right(2, 1, 2), right(5, 1, 3), right(9, 1, 6))
}

// equalRights are rights of the Owners 10, 20 and so on, which all have the same Share.
func equalRights(number int) []impl.Right {
	var list []impl.Right
	for i := range number {
		list = append(list, right(10*(i+1), 1, number))
	}
	return list
}

// rightsInWeek have equal Shares and lesser ones before and behind them.
func rightsInWeek() []impl.Right {
	return rights(right(1, 1, 7), right(2, 3, 14), right(3, 1, 14), right(4, 3, 14), right(5, 2, 7), right(998, 1, 28), right(999, 1, 28))
}

// lateHalves are rights whose sum is 1, but it would fail if 1/202 and 1/206 were added first.
func lateHalves() []impl.Right {
	return rights(right(1, 1, 202), right(2, 50, 101), right(3, 1, 206), right(4, 51, 103))
}

func validRights() [][]impl.Right {
	lists := [][]impl.Right{
		threeRights(), rightsInWeek(), lateHalves(), rights(right(1, 1, 1)), rights(right(999, 1, 1)), rights(right(7, 1, 1)),
		rights(right(1, 1, 2), right(999, 1, 2)), rights(right(998, 1, 2), right(999, 1, 2)), rights(right(1, 1, 10000), right(2, 9999, 10000)), rights(right(1, 9999, 10000), right(2, 1, 10000)),
		rights(right(1, 1, 3), right(2, 5, 12), right(3, 1, 4)), rights(right(1, 1, 4), right(2, 5, 12), right(3, 1, 3)), rights(right(3, 1, 2), right(4, 3, 10), right(7, 1, 5)), rights(right(3, 3, 10), right(4, 1, 5), right(7, 1, 2)),
		rights(right(1, 1, 5000), right(2, 4999, 5000)), rights(right(1, 1, 2), right(2, 51, 103), right(3, 1, 206)), rights(right(1, 1, 5000), right(2, 3, 2000), right(3, 3743, 3750), right(4, 1, 6000)),
	}
	for number := 1; number <= 12; number++ {
		lists = append(lists, equalRights(number))
	}
	return lists
}

// withRight is the list with another right at one place.
func withRight(list []impl.Right, i int, r impl.Right) []impl.Right {
	list = slices.Clone(list)
	list[i] = r
	return list
}

func wrongOwners() []int {
	return []int{math.MinInt, math.MinInt + 1, -999, -2, -1, 0, 1000, 1001, 2000, math.MaxInt - 1, math.MaxInt}
}

func invalidRights() [][]impl.Right {
	lists := [][]impl.Right{
		nil, {}, {{}}, equalRights(13), equalRights(14), equalRights(400),
		// The numbers of the Owners are equal, or descend.
		rights(right(3, 1, 2), right(3, 1, 2)), rights(right(4, 1, 2), right(3, 1, 2)), rights(right(999, 1, 2), right(1, 1, 2)),
		rights(right(1, 1, 2), right(5, 1, 3), right(5, 1, 6)), rights(right(5, 1, 2), right(5, 1, 3), right(9, 1, 6)), rights(right(1, 1, 2), right(9, 1, 3), right(5, 1, 6)), rights(right(9, 1, 2), right(2, 1, 3), right(5, 1, 6)),
		// The sum is 1, but a Share is 0, has a common divisor or is negative.
		rights(right(1, 0, 1), right(2, 1, 1)), rights(right(1, 1, 1), right(2, 0, 1)), rights(right(1, 1, 2), right(2, 0, 1), right(3, 1, 2)), rights(right(1, 1, 2), right(2, 0, 2), right(3, 1, 2)), rights(right(1, 1, 2), right(2, 0, 0), right(3, 1, 2)),
		rights(right(1, 2, 2)), rights(right(1, 2, 4), right(2, 1, 2)), rights(right(1, 1, 2), right(2, 2, 4)), rights(right(1, 1, 2), right(2, 2, 6), right(3, 1, 6)), rights(right(1, -1, 2), right(2, 3, 2)), rights(right(1, 3, 2), right(2, -1, 2)), rights(right(1, -1, -1)), rights(right(1, -1, -2), right(2, 1, 2)),
		rights(right(1, 1, 10001), right(2, 10000, 10001)), rights(right(1, 10001, 10001)), rights(right(1, 1, 20000), right(2, 19999, 20000)),
		// It is less than 1, or greater.
		rights(right(1, 1, 2)), rights(right(1, 9999, 10000)), rights(right(1, 1, 2), right(2, 1, 3)), rights(right(1, 1, 2), right(2, 4999, 10000)), rights(right(1, 0, 1)),
		rights(right(1, 2, 1)), rights(right(1, 10000, 9999)), rights(right(1, 1, 2), right(2, 2, 3)), rights(right(1, 1, 2), right(2, 5001, 10000)), rights(right(1, 1, 1), right(2, 1, 1)), rights(right(1, 1, 1), right(2, 1, 10000)), rights(right(1, 10000, 1)),
		threeRights()[:2], threeRights()[1:], equalRights(12)[1:], append(equalRights(12)[:11], right(999, 1, 6)), append(equalRights(11), right(999, 1, 11)),
		// It would be 1, but fails on the way.
		rights(right(1, 1, 202), right(2, 1, 206), right(3, 50, 101), right(4, 51, 103)), rights(right(1, 50, 101), right(2, 51, 103), right(3, 1, 202), right(4, 1, 206)), rights(right(1, 1, 2), right(2, 1, 202), right(3, 1, 206), right(4, 49, 101), right(5, 1, 206)),
	}
	for _, good := range [][]impl.Right{equalRights(1), threeRights(), equalRights(12)} {
		for _, i := range []int{0, len(good) / 2, len(good) - 1} {
			for _, owner := range wrongOwners() {
				lists = append(lists, withRight(good, i, impl.Right{Owner: owner, Share: good[i].Share}))
			}
			for _, share := range append(invalidFractions(), fraction(0, 1)) {
				lists = append(lists, withRight(good, i, impl.Right{Owner: good[i].Owner, Share: share}))
			}
		}
	}
	return lists
}

// someRights have so many Owners, and Shares of which most have the same Bottom.
func someRights(random *rand.Rand, number int, mostBottom int) []impl.Right {
	bottom := number + random.Intn(mostBottom-number+1)
	ends := append(random.Perm(bottom - 1)[:number-1], bottom-1)
	owners := random.Perm(999)[:number]
	slices.Sort(ends)
	slices.Sort(owners)
	var list []impl.Right
	before := -1
	for i, end := range ends {
		share := big.NewRat(int64(end-before), int64(bottom))
		list = append(list, right(owners[i]+1, int(share.Num().Int64()), int(share.Denom().Int64())))
		before = end
	}
	return list
}

// manyRights are all valid lists above, and many more.
func manyRights(random *rand.Rand) [][]impl.Right {
	lists := validRights()
	for number := 1; number <= 12; number++ {
		for _, mostBottom := range []int{12, 13, 30, 100, 1000, 10000} {
			for range 4 {
				lists = append(lists, someRights(random, number, mostBottom))
			}
		}
	}
	return lists
}

// exactSum adds the Shares as the library counts them. It needs Bottoms other than 0.
func exactSum(list []impl.Right) *big.Rat {
	sum := new(big.Rat)
	for _, r := range list {
		sum.Add(sum, exact(r.Share))
	}
	return sum
}

// isExactlyValid reports whether a fraction without limits keeps to them.
func isExactlyValid(f *big.Rat) bool {
	limit := big.NewInt(10000)
	return f.Sign() >= 0 && f.Num().Cmp(limit) <= 0 && f.Denom().Cmp(limit) <= 0
}

// plainRightsOk holds each right against all others, and counts the sums on the way with the library.
func plainRightsOk(list []impl.Right) bool {
	if len(list) < 1 || len(list) > 12 {
		return false
	}
	for i, r := range list {
		if r.Owner < 1 || r.Owner > 999 || r.Share.Top == 0 || !plainFractionOk(r.Share.Top, r.Share.Bottom) {
			return false
		}
		for _, later := range list[i+1:] {
			if later.Owner <= r.Owner {
				return false
			}
		}
	}
	for i := range list {
		if !isExactlyValid(exactSum(list[:i+1])) {
			return false
		}
	}
	return exactSum(list).Cmp(big.NewRat(1, 1)) == 0
}

// exactPart is the part of the water without any rounding.
func exactPart(r impl.Right, water int) *big.Rat {
	return new(big.Rat).Mul(exact(r.Share), big.NewRat(int64(water), 1))
}

// plainDivide gives out each liter that is left on its own, to the right that lacks most.
func plainDivide(list []impl.Right, water int) []int {
	liters, lacks, left := make([]int, len(list)), make([]*big.Rat, len(list)), water
	for i, r := range list {
		part := exactPart(r, water)
		liters[i] = int(new(big.Int).Quo(part.Num(), part.Denom()).Int64())
		lacks[i] = part.Sub(part, big.NewRat(int64(liters[i]), 1))
		left -= liters[i]
	}
	for ; left > 0; left-- {
		most := 0
		for i := range list {
			if lacks[i].Cmp(lacks[most]) > 0 {
				most = i
			}
		}
		liters[most]++
		lacks[most] = new(big.Rat)
	}
	return liters
}

// shareOf is the exact Share of an owner, 0 without a right.
func shareOf(list []impl.Right, owner int) *big.Rat {
	share := new(big.Rat)
	for _, r := range list {
		if r.Owner == owner {
			share = exact(r.Share)
		}
	}
	return share
}

// plainSell goes through all Owners there may be, and counts the Share of each one after the sale with the library.
func plainSell(list []impl.Right, from int, to int, part impl.Fraction) ([]impl.Right, bool) {
	if !plainRightsOk(list) || shareOf(list, from).Sign() == 0 || from == to || to < 1 || to > 999 || !plainFractionOk(part.Top, part.Bottom) || part.Top > part.Bottom {
		return list, false
	}
	sold := new(big.Rat).Mul(shareOf(list, from), exact(part))
	if !isExactlyValid(sold) {
		return list, false
	}
	var after []impl.Right
	for owner := 1; owner <= 999; owner++ {
		share := shareOf(list, owner)
		if owner == from {
			share.Sub(share, sold)
		}
		if owner == to {
			share.Add(share, sold)
		}
		if !isExactlyValid(share) {
			return list, false
		}
		if share.Sign() > 0 {
			after = append(after, right(owner, int(share.Num().Int64()), int(share.Denom().Int64())))
		}
	}
	if !plainRightsOk(after) {
		return list, false
	}
	return after, true
}

func TestRightsOk(t *testing.T) {
	for _, list := range manyRights(rand.New(rand.NewSource(21))) {
		if !impl.RightsOk(list) {
			t.Errorf("%v are not valid", list)
		}
	}
	for _, list := range invalidRights() {
		if impl.RightsOk(list) {
			t.Errorf("%v are valid", list)
		}
	}
}

func TestRightLimits(t *testing.T) {
	cases := []struct {
		list []impl.Right
		ok   bool
	}{
		{rights(right(1, 1, 1)), true}, {rights(right(0, 1, 1)), false}, {rights(right(-1, 1, 1)), false}, {rights(right(999, 1, 1)), true}, {rights(right(1000, 1, 1)), false},
		{rights(right(1, 1, 2), right(2, 1, 2)), true}, {rights(right(1, 1, 2), right(1, 1, 2)), false}, {rights(right(2, 1, 2), right(1, 1, 2)), false}, {rights(right(0, 1, 2), right(1, 1, 2)), false}, {rights(right(999, 1, 2), right(1000, 1, 2)), false},
		{rights(right(1, 1, 2), right(2, 4999, 10000)), false}, {rights(right(1, 4999, 10000), right(2, 5001, 10000)), true}, {rights(right(1, 1, 2), right(2, 5001, 10000)), false},
		{nil, false}, {equalRights(1), true}, {equalRights(12), true}, {equalRights(13), false},
		{lateHalves(), true}, {rights(right(1, 1, 202), right(2, 1, 206), right(3, 50, 101), right(4, 51, 103)), false},
	}
	for _, c := range cases {
		if ok := impl.RightsOk(c.list); ok != c.ok {
			t.Errorf("%v: %v", c.list, ok)
		}
	}
}

// TestRightsOkOfEachOrder goes through all orders of four Owners, with Shares whose sums fail in some of them.
func TestRightsOkOfEachOrder(t *testing.T) {
	valid := 0
	eachList(4, 1, 4, func(owners []int) {
		eachList(4, 0, 3, func(shares []int) {
			var list []impl.Right
			for i, owner := range owners {
				list = append(list, impl.Right{Owner: owner, Share: lateHalves()[shares[i]].Share})
			}
			ok := impl.RightsOk(list)
			if ok != plainRightsOk(list) {
				t.Errorf("%v: %v", list, ok)
			}
			if ok {
				valid++
			}
		})
	})
	// The Owners are 1, 2, 3 and 4. One of both halves is whole before the other one begins, in 8 orders, or the Shares
	// of one half are all there twice, in 6 orders for each.
	if valid != 20 {
		t.Errorf("%d lists are valid", valid)
	}
}

func TestSumOfShares(t *testing.T) {
	cases := []struct {
		list []impl.Right
		sum  impl.Fraction
		ok   bool
	}{
		{threeRights(), fraction(1, 1), true}, {threeRights()[:2], fraction(5, 6), true}, {threeRights()[1:], fraction(1, 2), true}, {threeRights()[2:], fraction(1, 6), true},
		{nil, fraction(0, 1), true}, {rights(), fraction(0, 1), true}, {rights(right(1, 0, 1)), fraction(0, 1), true}, {rights(right(1, 0, 1), right(2, 2, 7)), fraction(2, 7), true},
		// A sum is greater than 1, up to the limit of Top and beyond.
		{rights(right(1, 1, 2), right(2, 2, 3)), fraction(7, 6), true}, {rights(right(1, 1, 1), right(2, 1, 1)), fraction(2, 1), true}, {rights(right(1, 9999, 1), right(2, 1, 1)), fraction(10000, 1), true},
		{rights(right(1, 10000, 1), right(2, 1, 1)), impl.Fraction{}, false}, {rights(right(1, 9999, 1), right(2, 1, 1), right(3, 1, 1)), impl.Fraction{}, false}, {rights(right(1, 5000, 1), right(2, 5000, 3), right(3, 5000, 3)), impl.Fraction{}, false},
		{rights(right(1, 9999, 10000), right(2, 9999, 10000)), fraction(9999, 5000), true},
		// The Owners make no difference.
		{rights(right(0, 1, 2), right(0, 1, 3)), fraction(5, 6), true}, {rights(right(9, 1, 2), right(2, 1, 2)), fraction(1, 1), true}, {rights(right(math.MaxInt, 1, 5), right(math.MinInt, 2, 5)), fraction(3, 5), true},
		{rights(impl.Right{Share: fraction(1, 4)}, right(1000, 1, 4), right(-1, 1, 4)), fraction(3, 4), true},
		// The limit of the number of rights.
		{equalRights(12), fraction(1, 1), true}, {equalRights(13), impl.Fraction{}, false}, {equalRights(13)[:12], fraction(12, 13), true},
		{slices.Repeat(rights(right(5, 1, 1)), 12), fraction(12, 1), true}, {slices.Repeat(rights(right(5, 1, 1)), 13), impl.Fraction{}, false}, {slices.Repeat(rights(right(5, 0, 1)), 12), fraction(0, 1), true}, {slices.Repeat(rights(right(5, 0, 1)), 13), impl.Fraction{}, false},
		{equalRights(400), impl.Fraction{}, false}, {append(equalRights(12), impl.Right{}), impl.Fraction{}, false},
		// A step fails: the first one, one on the way or the last one.
		{rights(right(1, 2, 4)), impl.Fraction{}, false}, {rights(right(1, 2, 4), right(2, 1, 2)), impl.Fraction{}, false}, {rights(right(1, 1, 2), right(2, 2, 4)), impl.Fraction{}, false}, {rights(right(1, 1, 2), impl.Right{Owner: 2}), impl.Fraction{}, false}, {rights(impl.Right{}), impl.Fraction{}, false},
		{rights(right(1, 1, 9999), right(2, 1, 10000)), impl.Fraction{}, false}, {rights(right(1, 1, 202), right(2, 1, 206), right(3, 50, 101), right(4, 51, 103)), impl.Fraction{}, false},
		{rights(right(1, 1, 202), right(2, 50, 101), right(3, 1, 206)), fraction(52, 103), true}, {rights(right(1, 1, 2), right(2, -1, 2)), impl.Fraction{}, false}, {rights(right(1, 3, 2), right(2, -1, 2)), impl.Fraction{}, false},
	}
	for _, c := range cases {
		if sum, ok := impl.SumOfShares(c.list); sum != c.sum || ok != c.ok {
			t.Errorf("SumOfShares(%v): %v, %v", c.list, sum, ok)
		}
	}
}

// TestEachSumOnTheWay adds any Shares, and holds each sum on the way against the library.
func TestEachSumOnTheWay(t *testing.T) {
	random := rand.New(rand.NewSource(22))
	sums, failures := 0, 0
	for range 3000 {
		var list []impl.Right
		isGood := true
		for range 1 + random.Intn(12) {
			share := someFraction(random, []int{4, 12, 30, 100}[random.Intn(4)])
			list = append(list, impl.Right{Owner: random.Intn(1002) - 1, Share: share})
			isGood = isGood && isExactlyValid(exactSum(list))
		}
		sum, ok := impl.SumOfShares(list)
		if isGood {
			sums++
		} else {
			failures++
		}
		if isGood && !isMade(sum, ok, exactSum(list)) || !isGood && !isNotMade(sum, ok) {
			t.Errorf("SumOfShares(%v): %v, %v", list, sum, ok)
		}
	}
	if sums < 500 || failures < 500 {
		t.Errorf("only %d sums and %d failures", sums, failures)
	}
}

// TestInvalidSumOfShares puts each fraction that is not valid at each place.
func TestInvalidSumOfShares(t *testing.T) {
	for _, wrong := range invalidFractions() {
		for _, good := range [][]impl.Right{equalRights(1), threeRights(), equalRights(12)} {
			for i, r := range good {
				list := withRight(good, i, impl.Right{Owner: r.Owner, Share: wrong})
				if sum, ok := impl.SumOfShares(list); !isNotMade(sum, ok) {
					t.Errorf("SumOfShares(%v): %v, %v", list, sum, ok)
				}
			}
		}
	}
}

func TestDivide(t *testing.T) {
	cases := []struct {
		list   []impl.Right
		water  int
		liters []int
	}{
		{threeRights(), 11, []int{5, 4, 2}}, {threeRights(), 12, []int{6, 4, 2}}, {threeRights(), 6, []int{3, 2, 1}}, {threeRights(), 1, []int{1, 0, 0}}, {threeRights(), 2, []int{1, 1, 0}}, {threeRights(), 5, []int{2, 2, 1}},
		// Equal remainders of the same Bottom.
		{equalRights(3), 1, []int{1, 0, 0}}, {equalRights(3), 2, []int{1, 1, 0}}, {equalRights(3), 3, []int{1, 1, 1}}, {equalRights(3), 4, []int{2, 1, 1}}, {equalRights(3), 5, []int{2, 2, 1}}, {equalRights(2), 1, []int{1, 0}}, {equalRights(2), 999999, []int{500000, 499999}},
		{rights(right(1, 1, 5), right(2, 2, 5), right(3, 2, 5)), 1, []int{0, 1, 0}}, {rights(right(1, 2, 5), right(2, 1, 5), right(3, 2, 5)), 1, []int{1, 0, 0}}, {rights(right(1, 2, 5), right(2, 1, 5), right(3, 2, 5)), 2, []int{1, 0, 1}},
		// Equal as fractions, with different Bottoms: 6/12 and 2/4.
		{rights(right(1, 1, 3), right(2, 5, 12), right(3, 1, 4)), 6, []int{2, 3, 1}}, {rights(right(1, 1, 4), right(2, 5, 12), right(3, 1, 3)), 6, []int{2, 2, 2}}, {rights(right(1, 5, 12), right(2, 1, 3), right(3, 1, 4)), 6, []int{3, 2, 1}},
		// A greater remainder is the lesser fraction: 1 of 2, 3 of 10 and 1 of 5.
		{rights(right(3, 1, 2), right(4, 3, 10), right(7, 1, 5)), 1, []int{1, 0, 0}}, {rights(right(3, 3, 10), right(4, 1, 5), right(7, 1, 2)), 1, []int{0, 0, 1}}, {rights(right(3, 3, 10), right(4, 1, 2), right(7, 1, 5)), 1, []int{0, 1, 0}},
		{rights(right(3, 3, 10), right(4, 1, 5), right(7, 1, 2)), 2, []int{1, 0, 1}}, {rights(right(3, 3, 10), right(4, 1, 5), right(7, 1, 2)), 3, []int{1, 1, 1}}, {rights(right(3, 3, 10), right(4, 1, 5), right(7, 1, 2)), 4, []int{1, 1, 2}},
		// Some rights have no remainder: 6 of 2/3, and the others 3/2 each.
		{rights(right(1, 2, 3), right(2, 1, 6), right(3, 1, 6)), 9, []int{6, 2, 1}}, {rights(right(1, 1, 6), right(2, 2, 3), right(3, 1, 6)), 9, []int{2, 6, 1}}, {rights(right(1, 1, 2), right(2, 1, 4), right(3, 1, 4)), 2, []int{1, 1, 0}}, {rights(right(1, 1, 2), right(2, 1, 4), right(3, 1, 4)), 4, []int{2, 1, 1}},
		// Several liters go to the greatest remainders.
		{equalRights(12), 11, []int{1, 1, 1, 1, 1, 1, 1, 1, 1, 1, 1, 0}}, {equalRights(12), 12, []int{1, 1, 1, 1, 1, 1, 1, 1, 1, 1, 1, 1}}, {equalRights(12), 13, []int{2, 1, 1, 1, 1, 1, 1, 1, 1, 1, 1, 1}}, {equalRights(12), 1, []int{1, 0, 0, 0, 0, 0, 0, 0, 0, 0, 0, 0}},
		{equalRights(12), 1000000, []int{83334, 83334, 83334, 83334, 83333, 83333, 83333, 83333, 83333, 83333, 83333, 83333}},
		{rightsInWeek(), 3, []int{0, 1, 0, 1, 1, 0, 0}}, {rightsInWeek(), 28, []int{4, 6, 2, 6, 8, 1, 1}}, {rightsInWeek(), 27, []int{4, 6, 2, 6, 7, 1, 1}},
		// The limits of the water.
		{threeRights(), 0, []int{0, 0, 0}}, {equalRights(1), 0, []int{0}}, {equalRights(12), 0, make([]int, 12)}, {threeRights(), 1000000, []int{500000, 333333, 166667}}, {threeRights(), 999999, []int{500000, 333333, 166666}},
		{equalRights(1), 1, []int{1}}, {equalRights(1), 7, []int{7}}, {equalRights(1), 1000000, []int{1000000}}, {rights(right(999, 1, 1)), 999999, []int{999999}},
		{rights(right(1, 1, 10000), right(2, 9999, 10000)), 1, []int{0, 1}}, {rights(right(1, 1, 10000), right(2, 9999, 10000)), 5000, []int{1, 4999}}, {rights(right(1, 9999, 10000), right(2, 1, 10000)), 5000, []int{5000, 0}}, {rights(right(1, 1, 10000), right(2, 9999, 10000)), 4999, []int{0, 4999}}, {rights(right(1, 1, 10000), right(2, 9999, 10000)), 1000000, []int{100, 999900}},
	}
	for _, c := range cases {
		if liters := impl.Divide(c.list, c.water); !slices.Equal(liters, c.liters) {
			t.Errorf("Divide(%v, %d): %v", c.list, c.water, liters)
		}
	}
}

func TestInvalidDivide(t *testing.T) {
	for _, list := range invalidRights() {
		for _, water := range slices.Concat(someAmounts(), wrongAmounts()) {
			if liters := impl.Divide(list, water); len(liters) != 0 {
				t.Errorf("Divide(%v, %d): %v", list, water, liters)
			}
		}
	}
	for _, list := range validRights() {
		for _, water := range wrongAmounts() {
			if liters := impl.Divide(list, water); len(liters) != 0 {
				t.Errorf("Divide(%v, %d): %v", list, water, liters)
			}
		}
	}
}

// checkDivide is the first half of promise 12: all water is given, and each right gets its part or not a whole liter more or less.
func checkDivide(t *testing.T, list []impl.Right, water int) {
	t.Helper()
	liters := impl.Divide(list, water)
	if !slices.Equal(liters, plainDivide(list, water)) || sumOf(liters) != water {
		t.Errorf("Divide(%v, %d): %v instead of %v", list, water, liters, plainDivide(list, water))
		return
	}
	for i, r := range list {
		away := exactPart(r, water)
		away.Sub(away, big.NewRat(int64(liters[i]), 1))
		if away.Abs(away).Cmp(big.NewRat(1, 1)) >= 0 {
			t.Errorf("Divide(%v, %d): %v, where right %d is a liter away from its part", list, water, liters, i)
		}
	}
}

func TestAllWaterIsDivided(t *testing.T) {
	random := rand.New(rand.NewSource(23))
	for _, list := range manyRights(random) {
		for water := range 30 {
			checkDivide(t, list, water)
		}
		for _, water := range someAmounts() {
			checkDivide(t, list, water)
		}
		for range 5 {
			checkDivide(t, list, random.Intn(1000001))
		}
	}
}

// TestEachSmallDivision goes through all rights of three Owners whose Shares have a Bottom up to 12.
func TestEachSmallDivision(t *testing.T) {
	one := big.NewRat(1, 1)
	for _, a := range smallFractions(12) {
		for _, b := range smallFractions(12) {
			last := new(big.Rat).Sub(one, new(big.Rat).Add(exact(a), exact(b)))
			if a.Top == 0 || b.Top == 0 || last.Sign() <= 0 || !isExactlyValid(last) {
				continue
			}
			list := rights(impl.Right{Owner: 1, Share: a}, impl.Right{Owner: 2, Share: b}, right(3, int(last.Num().Int64()), int(last.Denom().Int64())))
			for _, water := range []int{1, 2, 3, 5, 6, 10, 12} {
				checkDivide(t, list, water)
			}
		}
	}
}

type sale struct {
	list     []impl.Right
	from, to int
	part     impl.Fraction
	after    []impl.Right
}

// goodSales are sales that can be made.
func goodSales() []sale {
	half, whole, nothing := fraction(1, 2), fraction(1, 1), fraction(0, 1)
	twelve := equalRights(12)
	return []sale{
		// A new right stands ahead of all others, between two and behind all.
		{threeRights(), 5, 1, half, rights(right(1, 1, 6), right(2, 1, 2), right(5, 1, 6), right(9, 1, 6))},
		{threeRights(), 2, 7, half, rights(right(2, 1, 4), right(5, 1, 3), right(7, 1, 4), right(9, 1, 6))},
		{threeRights(), 9, 3, fraction(1, 3), rights(right(2, 1, 2), right(3, 1, 18), right(5, 1, 3), right(9, 1, 9))},
		{threeRights(), 2, 10, fraction(2, 3), rights(right(2, 1, 6), right(5, 1, 3), right(9, 1, 6), right(10, 1, 3))},
		{threeRights(), 9, 999, fraction(3, 4), rights(right(2, 1, 2), right(5, 1, 3), right(9, 1, 24), right(999, 1, 8))},
		// It stands where the one that was sold whole has stood, or elsewhere.
		{threeRights(), 2, 1, whole, rights(right(1, 1, 2), right(5, 1, 3), right(9, 1, 6))}, {threeRights(), 2, 4, whole, rights(right(4, 1, 2), right(5, 1, 3), right(9, 1, 6))},
		{threeRights(), 5, 6, whole, rights(right(2, 1, 2), right(6, 1, 3), right(9, 1, 6))}, {threeRights(), 5, 4, whole, rights(right(2, 1, 2), right(4, 1, 3), right(9, 1, 6))}, {threeRights(), 9, 999, whole, rights(right(2, 1, 2), right(5, 1, 3), right(999, 1, 6))},
		{threeRights(), 2, 999, whole, rights(right(5, 1, 3), right(9, 1, 6), right(999, 1, 2))}, {threeRights(), 9, 1, whole, rights(right(1, 1, 6), right(2, 1, 2), right(5, 1, 3))}, {threeRights(), 5, 1, whole, rights(right(1, 1, 3), right(2, 1, 2), right(9, 1, 6))},
		// The part is added to a right ahead of the Owner from, or behind.
		{threeRights(), 5, 2, half, rights(right(2, 2, 3), right(5, 1, 6), right(9, 1, 6))}, {threeRights(), 5, 9, half, rights(right(2, 1, 2), right(5, 1, 6), right(9, 1, 3))},
		{threeRights(), 9, 2, half, rights(right(2, 7, 12), right(5, 1, 3), right(9, 1, 12))}, {threeRights(), 2, 9, fraction(1, 6), rights(right(2, 5, 12), right(5, 1, 3), right(9, 1, 4))},
		{threeRights(), 9, 5, whole, rights(right(2, 1, 2), right(5, 1, 2))}, {threeRights(), 2, 5, whole, rights(right(5, 5, 6), right(9, 1, 6))}, {threeRights(), 5, 2, whole, rights(right(2, 5, 6), right(9, 1, 6))},
		{rights(right(3, 1, 4), right(4, 3, 4)), 3, 4, whole, rights(right(4, 1, 1))}, {rights(right(3, 1, 4), right(4, 3, 4)), 4, 3, whole, rights(right(3, 1, 1))},
		// A part of 0 changes nothing, and makes no right.
		{threeRights(), 2, 5, nothing, threeRights()}, {threeRights(), 9, 5, nothing, threeRights()}, {threeRights(), 2, 7, nothing, threeRights()}, {threeRights(), 9, 1, nothing, threeRights()}, {twelve, 10, 999, nothing, twelve}, {equalRights(1), 10, 5, nothing, equalRights(1)},
		{rights(right(1, 9999, 10000), right(2, 1, 10000)), 2, 3, nothing, rights(right(1, 9999, 10000), right(2, 1, 10000))},
		// One right, and the least and the greatest number of an Owner.
		{rights(right(1, 1, 1)), 1, 999, half, rights(right(1, 1, 2), right(999, 1, 2))}, {rights(right(999, 1, 1)), 999, 1, whole, rights(right(1, 1, 1))}, {rights(right(1, 1, 1)), 1, 2, fraction(1, 10000), rights(right(1, 9999, 10000), right(2, 1, 10000))},
		{rights(right(2, 1, 1)), 2, 1, fraction(9999, 10000), rights(right(1, 9999, 10000), right(2, 1, 10000))}, {rights(right(1, 9999, 10000), right(2, 1, 10000)), 2, 3, whole, rights(right(1, 9999, 10000), right(3, 1, 10000))},
		// 12 rights stay 12, or become 11.
		{twelve, 10, 20, half, withRight(withRight(twelve, 0, right(10, 1, 24)), 1, right(20, 1, 8))}, {twelve, 120, 110, whole, withRight(twelve[:11], 10, right(110, 1, 6))}, {twelve, 120, 999, whole, withRight(twelve, 11, right(999, 1, 12))}, {twelve, 60, 61, whole, withRight(twelve, 5, right(61, 1, 12))},
		{equalRights(11), 110, 999, half, append(withRight(equalRights(11), 10, right(110, 1, 22)), right(999, 1, 22))},
	}
}

func TestSellShare(t *testing.T) {
	for _, s := range goodSales() {
		if after, ok := impl.SellShare(s.list, s.from, s.to, s.part); !ok || !slices.Equal(after, s.after) {
			t.Errorf("SellShare(%v, %d, %d, %v): %v, %v", s.list, s.from, s.to, s.part, after, ok)
		}
	}
}

// checkNoSale checks that the rights stay as they are.
func checkNoSale(t *testing.T, list []impl.Right, from int, to int, part impl.Fraction) {
	t.Helper()
	before := slices.Clone(list)
	if after, ok := impl.SellShare(list, from, to, part); ok || !slices.Equal(after, before) {
		t.Errorf("SellShare(%v, %d, %d, %v): %v, %v", list, from, to, part, after, ok)
	}
}

// TestFailedSales are sales between good Owners of good parts that fail by a fraction or by the rights that would come of it.
func TestFailedSales(t *testing.T) {
	small := rights(right(1, 9999, 10000), right(2, 1, 10000))
	split := rights(right(1, 1, 2), right(2, 1, 2))
	sales := []sale{
		// A half of 1/10000 is not valid, for a new right and for an old one.
		{list: small, from: 2, to: 3, part: fraction(1, 2)}, {list: small, from: 2, to: 1, part: fraction(1, 2)}, {list: small, from: 2, to: 1, part: fraction(9999, 10000)}, {list: small, from: 1, to: 2, part: fraction(1, 2)}, {list: equalRights(12), from: 10, to: 20, part: fraction(1, 10000)},
		// 1/6000 is sold, but 1/30000 would be left.
		{list: rights(right(1, 1, 5000), right(2, 4999, 5000)), from: 1, to: 3, part: fraction(5, 6)},
		// 1/202 is sold and 50/101 are left, but 51/103 and 1/202 are not valid.
		{list: rights(right(1, 1, 2), right(2, 51, 103), right(3, 1, 206)), from: 1, to: 2, part: fraction(1, 101)},
		// 1/6000 would be left and 1/6000 become 1/5000, but 1/30000 is not valid.
		{list: rights(right(1, 1, 5000), right(2, 3, 2000), right(3, 3743, 3750), right(4, 1, 6000)), from: 1, to: 4, part: fraction(1, 6)},
		// Each Share would be valid, but not the sum of 50/101 and 51/103, or of 1/202 and 1/206.
		{list: rights(right(1, 50, 101), right(2, 1, 2), right(3, 1, 202)), from: 2, to: 4, part: fraction(1, 103)}, {list: rights(right(1, 1, 202), right(3, 50, 101), right(4, 1, 2)), from: 4, to: 2, part: fraction(1, 103)},
		// There would be 13 rights.
		{list: equalRights(12), from: 10, to: 999, part: fraction(1, 2)}, {list: equalRights(12), from: 10, to: 1, part: fraction(1, 2)}, {list: equalRights(12), from: 120, to: 65, part: fraction(1, 3)},
		// There is no Owner from, or from is to.
		{list: split, from: 3, to: 1, part: fraction(1, 2)}, {list: split, from: 3, to: 4, part: fraction(1, 2)}, {list: split, from: 3, to: 1, part: fraction(0, 1)}, {list: split, from: 3, to: 1, part: fraction(1, 1)}, {list: threeRights(), from: 1, to: 2, part: fraction(1, 2)}, {list: threeRights(), from: 4, to: 2, part: fraction(0, 1)}, {list: threeRights(), from: 10, to: 2, part: fraction(1, 1)},
		{list: split, from: 1, to: 1, part: fraction(1, 2)}, {list: split, from: 2, to: 2, part: fraction(0, 1)}, {list: split, from: 2, to: 2, part: fraction(1, 1)}, {list: split, from: 3, to: 3, part: fraction(1, 2)}, {list: equalRights(1), from: 10, to: 10, part: fraction(1, 1)},
		// The part is greater than 1.
		{list: split, from: 1, to: 2, part: fraction(2, 1)}, {list: split, from: 1, to: 3, part: fraction(3, 2)}, {list: split, from: 1, to: 2, part: fraction(10000, 9999)}, {list: split, from: 1, to: 3, part: fraction(10000, 1)}, {list: split, from: 1, to: 2, part: fraction(2, 2)},
	}
	for _, s := range sales {
		checkNoSale(t, s.list, s.from, s.to, s.part)
	}
}

func TestInvalidSellShare(t *testing.T) {
	parts := []impl.Fraction{fraction(1, 2), fraction(0, 1), fraction(1, 1)}
	for _, list := range invalidRights() {
		for _, part := range parts {
			checkNoSale(t, list, 2, 5, part)
			checkNoSale(t, list, 10, 999, part)
			for _, r := range list[:min(len(list), 3)] {
				checkNoSale(t, list, r.Owner, 7, part)
				checkNoSale(t, list, list[0].Owner, r.Owner, part)
			}
		}
	}
	for _, list := range validRights() {
		from := list[len(list)/2].Owner
		for _, owner := range wrongOwners() {
			for _, part := range parts {
				checkNoSale(t, list, from, owner, part)
				checkNoSale(t, list, owner, from, part)
				checkNoSale(t, list, owner, owner, part)
			}
		}
		for _, wrong := range append(invalidFractions(), fraction(2, 1), fraction(10000, 9999), fraction(10000, 1)) {
			checkNoSale(t, list, from, 7, wrong)
			checkNoSale(t, list, from, 555, wrong)
			checkNoSale(t, list, from, list[0].Owner, wrong)
		}
	}
}

// checkSale is the second half of promise 12: what is sold is added elsewhere, and nobody else has more or less.
func checkSale(t *testing.T, list []impl.Right, from int, to int, part impl.Fraction) bool {
	t.Helper()
	after, ok := impl.SellShare(list, from, to, part)
	want, wantOk := plainSell(list, from, to, part)
	if ok != wantOk || !slices.Equal(after, want) {
		t.Errorf("SellShare(%v, %d, %d, %v): %v, %v instead of %v, %v", list, from, to, part, after, ok, want, wantOk)
		return false
	}
	if !impl.RightsOk(after) || exactSum(after).Cmp(big.NewRat(1, 1)) != 0 {
		t.Errorf("SellShare(%v, %d, %d, %v): %v are not whole", list, from, to, part, after)
	}
	together, before := shareOf(after, from), shareOf(list, from)
	if together.Add(together, shareOf(after, to)).Cmp(before.Add(before, shareOf(list, to))) != 0 {
		t.Errorf("SellShare(%v, %d, %d, %v): both have %v instead of %v", list, from, to, part, together, before)
	}
	return ok
}

func TestWhatIsSoldIsAddedElsewhere(t *testing.T) {
	random := rand.New(rand.NewSource(24))
	good, failed := 0, 0
	for _, list := range manyRights(random) {
		for range 12 {
			from, to := list[random.Intn(len(list))].Owner, list[random.Intn(len(list))].Owner
			if random.Intn(2) == 0 {
				to = random.Intn(1002)
			}
			if from == to {
				continue
			}
			bottom := []int{1, 2, 3, 12, 100}[random.Intn(5)]
			part := big.NewRat(int64(random.Intn(bottom+1)), int64(bottom))
			if checkSale(t, list, from, to, fraction(int(part.Num().Int64()), int(part.Denom().Int64()))) {
				good++
			} else {
				failed++
			}
		}
	}
	if good < 500 || failed < 200 {
		t.Errorf("only %d sales that are made, and %d that are not", good, failed)
	}
}

// TestManySales sells again and again, and divides the water after each sale.
func TestManySales(t *testing.T) {
	random := rand.New(rand.NewSource(25))
	for range 40 {
		list := rights(right(1+random.Intn(15), 1, 1))
		for range 30 {
			from, to, part := list[random.Intn(len(list))].Owner, 1+random.Intn(15), fraction(1, 1+random.Intn(3))
			if from == to {
				continue
			}
			checkSale(t, list, from, to, part)
			list, _ = impl.SellShare(list, from, to, part)
			checkDivide(t, list, random.Intn(1000))
		}
	}
}

// TestSoldAndSoldBack sells to somebody new, who then sells everything back.
func TestSoldAndSoldBack(t *testing.T) {
	sales := 0
	for _, list := range validRights() {
		for _, r := range list {
			for _, part := range []impl.Fraction{fraction(1, 1), fraction(1, 2), fraction(2, 3), fraction(5, 8)} {
				for _, to := range []int{3, 7, 555, 997} {
					after, ok := impl.SellShare(list, r.Owner, to, part)
					if !ok || shareOf(list, to).Sign() > 0 {
						continue
					}
					sales++
					if back, ok := impl.SellShare(after, to, r.Owner, fraction(1, 1)); !ok || !slices.Equal(back, list) {
						t.Errorf("%v are sold as %v, and sold back they are %v, %v", list, after, back, ok)
					}
				}
			}
		}
	}
	if sales < 300 {
		t.Errorf("only %d sales", sales)
	}
}

func TestLargestOwner(t *testing.T) {
	cases := []struct {
		list  []impl.Right
		owner int
	}{
		{threeRights(), 2}, {rights(right(2, 1, 6), right(5, 1, 2), right(9, 1, 3)), 5}, {rights(right(2, 1, 6), right(5, 1, 3), right(9, 1, 2)), 9}, {rights(right(7, 1, 1)), 7}, {rights(right(1, 1, 1)), 1}, {rights(right(999, 1, 1)), 999},
		// Several have the greatest Share.
		{equalRights(2), 10}, {equalRights(12), 10}, {rights(right(3, 1, 5), right(4, 2, 5), right(8, 2, 5)), 4}, {rights(right(3, 2, 5), right(4, 1, 5), right(8, 2, 5)), 3}, {rights(right(3, 2, 5), right(4, 2, 5), right(8, 1, 5)), 3},
		{rights(right(1, 1, 8), right(2, 1, 4), right(3, 1, 8), right(4, 1, 4), right(5, 1, 4)), 2},
		// A greater Top is not a greater Share.
		{rights(right(3, 3, 10), right(4, 1, 5), right(7, 1, 2)), 7}, {rights(right(3, 1, 2), right(4, 3, 10), right(7, 1, 5)), 3}, {rightsInWeek(), 5}, {lateHalves(), 4},
		{rights(right(1, 1, 10000), right(2, 9999, 10000)), 2}, {rights(right(1, 4999, 10000), right(2, 5001, 10000)), 2}, {rights(right(1, 5001, 10000), right(2, 4999, 10000)), 1},
	}
	for _, c := range cases {
		if owner := impl.LargestOwner(c.list); owner != c.owner {
			t.Errorf("LargestOwner(%v): %d", c.list, owner)
		}
	}
	for _, list := range invalidRights() {
		if owner := impl.LargestOwner(list); owner != -1 {
			t.Errorf("LargestOwner(%v): %d", list, owner)
		}
	}
}

// TestNobodyHasMoreThanTheLargest checks that nobody has a greater Share, and nobody ahead has the same one.
func TestNobodyHasMoreThanTheLargest(t *testing.T) {
	for _, list := range manyRights(rand.New(rand.NewSource(26))) {
		largest := impl.LargestOwner(list)
		share := shareOf(list, largest)
		for _, r := range list {
			if order := exact(r.Share).Cmp(share); order > 0 || order == 0 && r.Owner < largest {
				t.Errorf("LargestOwner(%v): %d, but %v", list, largest, r)
			}
		}
	}
}

// rightsWithSpare is an equal list, and the longer one of which it is a part.
func rightsWithSpare(list []impl.Right) ([]impl.Right, []impl.Right) {
	long := append(slices.Clone(list), right(-1, -2, -3), right(-4, -5, -6))
	return long[:len(list)], long
}

// salesOf are sales of these rights that are made, that change nothing and that fail.
func salesOf(list []impl.Right) []sale {
	var sales []sale
	for _, part := range []impl.Fraction{fraction(1, 2), fraction(1, 1), fraction(0, 1), fraction(2, 1), {}} {
		for _, r := range list[:min(len(list), 13)] {
			sales = append(sales, sale{from: r.Owner, to: 7, part: part}, sale{from: r.Owner, to: list[0].Owner, part: part})
		}
		sales = append(sales, sale{from: 555, to: 7, part: part})
	}
	return sales
}

// TestRightsAreNotChanged calls each function with rights that are a part of a longer list, and writes into the results.
func TestRightsAreNotChanged(t *testing.T) {
	for _, given := range slices.Concat(validRights(), invalidRights()) {
		list, long := rightsWithSpare(given)
		before := slices.Clone(long)
		for range 2 {
			impl.RightsOk(list)
			impl.SumOfShares(list)
			impl.LargestOwner(list)
			for _, water := range []int{-1, 0, 7, 1000000} {
				spoilNumbers(impl.Divide(list, water))
			}
			for _, s := range salesOf(list) {
				after, _ := impl.SellShare(list, s.from, s.to, s.part)
				for i := range after {
					after[i] = right(-7, -8, -9)
				}
				_ = append(after, right(-7, -8, -9))
			}
		}
		if !slices.Equal(long, before) {
			t.Errorf("the rights have become %v instead of %v", long, before)
		}
	}
}

// TestResultsKeepTheirRights writes into the rights after the calls.
func TestResultsKeepTheirRights(t *testing.T) {
	for _, given := range slices.Concat(validRights(), invalidRights()) {
		for _, s := range salesOf(given) {
			list, long := rightsWithSpare(given)
			after, _ := impl.SellShare(list, s.from, s.to, s.part)
			again, _ := impl.SellShare(list, s.from, s.to, s.part)
			want := slices.Clone(after)
			for i := range long {
				long[i] = right(-1, -2, -3)
			}
			for i := range again {
				again[i] = right(-4, -5, -6)
			}
			if !slices.Equal(after, want) {
				t.Errorf("SellShare(%v, %d, %d, %v) has become %v", given, s.from, s.to, s.part, after)
			}
		}
	}
}

// TestRightsAtTheSameTime calls the functions from many goroutines: no rights get Shares of other ones.
func TestRightsAtTheSameTime(t *testing.T) {
	var all sync.WaitGroup
	for _, s := range goodSales() {
		want := plainDivide(s.list, 1001)
		all.Go(func() {
			for range 20 {
				after, ok := impl.SellShare(s.list, s.from, s.to, s.part)
				if liters := impl.Divide(s.list, 1001); !ok || !slices.Equal(after, s.after) || !slices.Equal(liters, want) {
					t.Errorf("%v: sold %v, divided %v", s.list, after, liters)
				}
			}
		})
	}
	all.Wait()
}
