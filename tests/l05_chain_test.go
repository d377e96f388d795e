package tests

import (
	"math"
	"math/rand"
	"slices"
	"testing"

	"loop.example/g03307/impl"
)

func chain(next []int, cisterns ...impl.Cistern) impl.Chain {
	return impl.Chain{Cisterns: cisterns, Next: next}
}

// emptyChain has an empty cistern of a Room of 10 for each Next.
func emptyChain(next ...int) impl.Chain {
	return chain(next, slices.Repeat([]impl.Cistern{cistern(10, 0)}, len(next))...)
}

// longChain has so many cisterns, each one with its index plus 1 as its Room, that overflow into the one after them.
func longChain(cisterns int) impl.Chain {
	var c impl.Chain
	for k := range cisterns {
		c.Cisterns = append(c.Cisterns, cistern(k+1, 0))
		c.Next = append(c.Next, k+1)
	}
	if cisterns > 0 {
		c.Next[cisterns-1] = -1
	}
	return c
}

// twoIntoOne has the cisterns 0 and 1, which overflow into 2.
func twoIntoOne() impl.Chain {
	return chain([]int{2, 2, -1}, cistern(10, 8), cistern(6, 1), cistern(20, 5))
}

// twistedChain leads from 0 to 2 to 1, and 3 overflows into 2; 4 stands alone.
func twistedChain() impl.Chain {
	return chain([]int{2, -1, 1, 2, -1}, cistern(10, 8), cistern(5, 0), cistern(4, 1), cistern(7, 7), cistern(3, 2))
}

func sameChain(a impl.Chain, b impl.Chain) bool {
	return slices.Equal(a.Cisterns, b.Cisterns) && slices.Equal(a.Next, b.Next)
}

func cloneChain(c impl.Chain) impl.Chain {
	return impl.Chain{Cisterns: slices.Clone(c.Cisterns), Next: slices.Clone(c.Next)}
}

func levelsIn(c impl.Chain) []int {
	var levels []int
	for _, one := range c.Cisterns {
		levels = append(levels, one.Level)
	}
	return levels
}

func validChains() []impl.Chain {
	return []impl.Chain{
		emptyChain(-1), emptyChain(-1, -1), emptyChain(1, -1), emptyChain(-1, 0), twoIntoOne(), twistedChain(),
		emptyChain(9, 9, 9, 9, 9, 9, 9, 9, 9, -1), emptyChain(-1, 0, 0, 0, 0, 0, 0, 0, 0, 0), emptyChain(-1, 0, 1, 2, 3, 4, 5, 6, 7, 8),
		emptyChain(2, 2, 6, 5, 5, 6, -1), emptyChain(-1, -1, -1, -1, -1, -1, -1, -1, -1, -1),
		longChain(1), longChain(2), longChain(9), longChain(10),
		chain([]int{-1}, cistern(1, 0)), chain([]int{-1}, cistern(1, 1)), chain([]int{-1}, cistern(1000000, 0)), chain([]int{-1}, cistern(1000000, 1000000)),
		chain([]int{1, -1}, cistern(1, 1), cistern(1, 1)), chain([]int{1, -1}, cistern(1000000, 0), cistern(1000000, 0)),
		chain([]int{1, -1}, cistern(1000000, 1), cistern(1, 0)), chain([]int{1, 2, -1}, cistern(400000, 0), cistern(300000, 0), cistern(299999, 0)),
		chain([]int{1, -1}, cistern(30, 30), cistern(50, 20)), chain([]int{1, -1}, cistern(30, 10), cistern(50, 50)),
	}
}

func invalidChains() []impl.Chain {
	chains := []impl.Chain{
		{}, {Cisterns: []impl.Cistern{}, Next: []int{}}, {Next: []int{-1}}, {Cisterns: []impl.Cistern{cistern(10, 0)}},
		longChain(11), longChain(12), longChain(40), emptyChain(-1, -1, -1, -1, -1, -1, -1, -1, -1, -1, -1),
		chain([]int{-1}, cistern(10, 0), cistern(10, 0)), chain([]int{-1, -1}, cistern(10, 0)), chain([]int{1, -1, -1}, cistern(10, 0), cistern(10, 0)),
		chain([]int{1, 2}, cistern(10, 0), cistern(10, 0), cistern(10, 0)), chain([]int{1, 2, -1}, cistern(10, 0), cistern(10, 0)),
		emptyChain(-2), emptyChain(1), emptyChain(1, 2), emptyChain(1, -2), emptyChain(-2, -1), emptyChain(2, -1),
		emptyChain(math.MinInt), emptyChain(math.MaxInt), emptyChain(-1, math.MinInt), emptyChain(math.MaxInt, -1),
		emptyChain(1, 2, 3, 4, 5, 6, 7, 8, 9, 10), emptyChain(-2, 0, 1, 2, 3, 4, 5, 6, 7, 8),
		emptyChain(0), emptyChain(0, -1), emptyChain(-1, 1), emptyChain(1, 1), emptyChain(1, 0), emptyChain(1, 2, 0), emptyChain(-1, 2, 1),
		emptyChain(1, 2, 1), emptyChain(1, 2, 3, 1, -1), emptyChain(-1, 0, 3, 2), emptyChain(1, 2, 3, 4, 5, 6, 7, 8, 9, 0), emptyChain(1, 2, 3, 4, 5, 6, 7, 8, 9, 9),
		emptyChain(1, 0, 3, 2), emptyChain(0, 1, 2),
	}
	for _, wrong := range invalidCisterns() {
		for k := range 3 {
			c := twoIntoOne()
			c.Cisterns[k] = wrong
			chains = append(chains, c)
		}
		chains = append(chains, chain([]int{-1}, wrong))
	}
	return chains
}

// plainChainOk says of each cistern whether its overflow is lost after as many steps as there are cisterns.
func plainChainOk(c impl.Chain) bool {
	if len(c.Cisterns) != len(c.Next) || len(c.Next) == 0 || len(c.Next) > 10 {
		return false
	}
	for start := range c.Next {
		at := start
		for steps := 0; at != -1; steps++ {
			if at < 0 || at >= len(c.Next) || steps == len(c.Next) || !impl.CisternOk(c.Cisterns[at]) {
				return false
			}
			at = c.Next[at]
		}
	}
	return true
}

// pourByLiters is what PourInto must do, one liter at a time: each one stays where it first finds space.
func pourByLiters(c impl.Chain, k int, water int) (impl.Chain, int) {
	c = cloneChain(c)
	lost := 0
	for range water {
		at := k
		for at != -1 && c.Cisterns[at].Level == c.Cisterns[at].Room {
			at = c.Next[at]
		}
		if at == -1 {
			lost++
			continue
		}
		c.Cisterns[at].Level++
	}
	return c, lost
}

// plainCircle has each index that is among those that are reached from it.
func plainCircle(next []int) []int {
	var circle []int
	for start := range next {
		reached := map[int]bool{}
		for at := next[start]; at >= 0 && at < len(next) && !reached[at]; at = next[at] {
			reached[at] = true
		}
		if reached[start] {
			circle = append(circle, start)
		}
	}
	return circle
}

// eachList calls visit with each list of so many numbers in the range low to high.
func eachList(numbers int, low int, high int, visit func(list []int)) {
	list := slices.Repeat([]int{low}, numbers)
	for {
		visit(slices.Clone(list))
		at := 0
		for at < numbers && list[at] == high {
			list[at] = low
			at++
		}
		if at == numbers {
			return
		}
		list[at]++
	}
}

// randomChain leads only to cisterns that come later in a random order, so there is no circle.
func randomChain(random *rand.Rand, greatestRoom int) impl.Chain {
	n := 1 + random.Intn(10)
	order := random.Perm(n)
	c := impl.Chain{Cisterns: make([]impl.Cistern, n), Next: make([]int, n)}
	for i, k := range order {
		room := 1 + random.Intn(greatestRoom)
		c.Cisterns[k] = cistern(room, random.Intn(room+1))
		c.Next[k] = -1
		if i+1 < n && random.Intn(6) > 0 {
			c.Next[k] = order[i+1+random.Intn(n-i-1)]
		}
	}
	return c
}

func TestChainOk(t *testing.T) {
	for _, c := range validChains() {
		if !impl.ChainOk(c) {
			t.Errorf("%v is not valid", c)
		}
	}
	for _, c := range invalidChains() {
		if impl.ChainOk(c) {
			t.Errorf("%v is valid", c)
		}
	}
}

func TestChainLengths(t *testing.T) {
	for cisterns := range 30 {
		if ok := impl.ChainOk(longChain(cisterns)); ok != (cisterns >= 1 && cisterns <= 10) {
			t.Errorf("a chain of %d cisterns: %v", cisterns, ok)
		}
		for nexts := range 30 {
			c := chain(slices.Repeat([]int{-1}, nexts), slices.Repeat([]impl.Cistern{cistern(10, 3)}, cisterns)...)
			if ok := impl.ChainOk(c); ok != (cisterns == nexts && cisterns >= 1 && cisterns <= 10) {
				t.Errorf("%d cisterns and %d Nexts: %v", cisterns, nexts, ok)
			}
		}
	}
}

// TestChainNextLimits gives each cistern of a chain each Next, while the others lose their overflow.
func TestChainNextLimits(t *testing.T) {
	for cisterns := 1; cisterns <= 10; cisterns++ {
		for k := range cisterns {
			for next := -4; next <= cisterns+3; next++ {
				c := emptyChain(slices.Repeat([]int{-1}, cisterns)...)
				c.Next[k] = next
				if ok := impl.ChainOk(c); ok != (next >= -1 && next <= cisterns-1 && next != k) {
					t.Errorf("%d cisterns, and cistern %d with the Next %d: %v", cisterns, k, next, ok)
				}
			}
		}
	}
}

// TestChainOkOfEachNext holds ChainOk against the way of each cistern, for all short lists.
func TestChainOkOfEachNext(t *testing.T) {
	for cisterns := 1; cisterns <= 5; cisterns++ {
		eachList(cisterns, -2, cisterns, func(next []int) {
			c := emptyChain(next...)
			if ok := impl.ChainOk(c); ok != plainChainOk(c) {
				t.Errorf("a chain with the Nexts %v: %v", next, ok)
			}
		})
	}
}

func TestPourInto(t *testing.T) {
	million := chain([]int{1, -1}, cistern(600000, 0), cistern(400000, 0))
	cases := []struct {
		name   string
		c      impl.Chain
		k      int
		water  int
		levels []int
		lost   int
	}{
		{"no overflow", twoIntoOne(), 0, 1, []int{9, 1, 5}, 0},
		{"just the first one", twoIntoOne(), 0, 2, []int{10, 1, 5}, 0},
		{"one liter goes on", twoIntoOne(), 0, 3, []int{10, 1, 6}, 0},
		{"the other one of two into one", twoIntoOne(), 1, 7, []int{8, 6, 7}, 0},
		{"into the one that two overflow into", twoIntoOne(), 2, 7, []int{8, 1, 12}, 0},
		{"one liter less than the way has space for", twoIntoOne(), 0, 16, []int{10, 1, 19}, 0},
		{"just what the way has space for", twoIntoOne(), 0, 17, []int{10, 1, 20}, 0},
		{"one liter more than the way has space for", twoIntoOne(), 0, 18, []int{10, 1, 20}, 1},
		{"just what the other way has space for", twoIntoOne(), 1, 20, []int{8, 6, 20}, 0},
		{"one liter more than the other way has space for", twoIntoOne(), 1, 21, []int{8, 6, 20}, 1},
		{"just what the last one has space for", twoIntoOne(), 2, 15, []int{8, 1, 20}, 0},
		{"one liter more than the last one has space for", twoIntoOne(), 2, 16, []int{8, 1, 20}, 1},
		{"nothing", twoIntoOne(), 0, 0, []int{8, 1, 5}, 0},
		{"nothing into the last one", twoIntoOne(), 2, 0, []int{8, 1, 5}, 0},
		{"the most water", twoIntoOne(), 0, 1000000, []int{10, 1, 20}, 999983},
		{"the most water into the last one", twoIntoOne(), 2, 1000000, []int{8, 1, 20}, 999985},
		{"a way that is not in the order of the list", twistedChain(), 0, 12, []int{10, 5, 4, 7, 2}, 2},
		{"a way that is not in the order of the list, without loss", twistedChain(), 0, 9, []int{10, 4, 4, 7, 2}, 0},
		{"a full one passes all on", twistedChain(), 3, 4, []int{8, 1, 4, 7, 2}, 0},
		{"a full one passes one liter on", twistedChain(), 3, 1, []int{8, 0, 2, 7, 2}, 0},
		{"a full one passes on nothing", twistedChain(), 3, 0, []int{8, 0, 1, 7, 2}, 0},
		{"from the middle of a way", twistedChain(), 2, 5, []int{8, 2, 4, 7, 2}, 0},
		{"an overflow that is lost at once", twistedChain(), 4, 3, []int{8, 0, 1, 7, 3}, 2},
		{"an overflow that is lost at once, just full", twistedChain(), 4, 1, []int{8, 0, 1, 7, 3}, 0},
		{"the end of a way", twistedChain(), 1, 6, []int{8, 5, 1, 7, 2}, 1},
		{"one cistern", emptyChain(-1), 0, 10, []int{10}, 0},
		{"one cistern and one liter more", emptyChain(-1), 0, 11, []int{10}, 1},
		{"ten cisterns, just full", longChain(10), 0, 55, []int{1, 2, 3, 4, 5, 6, 7, 8, 9, 10}, 0},
		{"ten cisterns and one liter more", longChain(10), 0, 56, []int{1, 2, 3, 4, 5, 6, 7, 8, 9, 10}, 1},
		{"ten cisterns and one liter less", longChain(10), 0, 54, []int{1, 2, 3, 4, 5, 6, 7, 8, 9, 9}, 0},
		{"the last one of ten cisterns", longChain(10), 9, 12, []int{0, 0, 0, 0, 0, 0, 0, 0, 0, 10}, 2},
		{"up a list", emptyChain(-1, 0, 1), 2, 24, []int{4, 10, 10}, 0},
		{"all are full", chain([]int{1, -1}, cistern(5, 5), cistern(6, 6)), 0, 7, []int{5, 6}, 7},
		{"all are full, and the most water", chain([]int{1, -1}, cistern(5, 5), cistern(6, 6)), 0, 1000000, []int{5, 6}, 1000000},
		{"a full one at the end", chain([]int{1, -1}, cistern(5, 2), cistern(6, 6)), 0, 7, []int{5, 6}, 4},
		{"a full one in the middle", chain([]int{1, 2, -1}, cistern(5, 2), cistern(6, 6), cistern(7, 0)), 0, 7, []int{5, 6, 4}, 0},
		{"the most water, just full", million, 0, 1000000, []int{600000, 400000}, 0},
		{"one liter less than the most water", million, 0, 999999, []int{600000, 399999}, 0},
		{"the most water and space for a liter less", chain([]int{1, -1}, cistern(600000, 0), cistern(400000, 1)), 0, 1000000, []int{600000, 400000}, 1},
		{"the greatest cisterns", chain([]int{1, -1}, cistern(1000000, 1), cistern(1000000, 0)), 0, 1000000, []int{1000000, 1}, 0},
		{"the least cisterns", chain([]int{1, -1}, cistern(1, 0), cistern(1, 0)), 0, 3, []int{1, 1}, 1},
	}
	for _, c := range cases {
		after, lost := impl.PourInto(c.c, c.k, c.water)
		if !slices.Equal(levelsIn(after), c.levels) || lost != c.lost {
			t.Errorf("%s: %v and %d", c.name, after, lost)
		}
		if want, _ := pourByLiters(c.c, c.k, c.water); !sameChain(after, want) {
			t.Errorf("%s: %v instead of %v", c.name, after, want)
		}
	}
}

// checkNoPour checks the fixed result of PourInto, and that it is a copy.
func checkNoPour(t *testing.T, c impl.Chain, k int, water int) {
	t.Helper()
	before := cloneChain(c)
	after, lost := impl.PourInto(c, k, water)
	if !sameChain(after, before) || lost != -1 {
		t.Errorf("PourInto(%v, %d, %d): %v and %d", c, k, water, after, lost)
	}
	spoil(after)
	if !sameChain(c, before) {
		t.Errorf("PourInto(%v, %d, %d) returns the memory of its argument", before, k, water)
	}
}

// spoil writes into the memory of a result.
func spoil(c impl.Chain) {
	for k := range c.Cisterns {
		c.Cisterns[k] = cistern(-5, -7)
	}
	for k := range c.Next {
		c.Next[k] = -99
	}
	_ = append(c.Cisterns, cistern(-5, -7))
	_ = append(c.Next, -99)
}

func TestInvalidPourInto(t *testing.T) {
	for _, c := range invalidChains() {
		for _, k := range []int{-1, 0, 1, len(c.Cisterns) - 1, len(c.Cisterns)} {
			for _, water := range []int{-1, 0, 9, 1000000, 1000001} {
				checkNoPour(t, c, k, water)
			}
		}
	}
	for _, c := range validChains() {
		for k := range c.Cisterns {
			for _, water := range wrongWaters() {
				checkNoPour(t, c, k, water)
			}
		}
		for _, k := range wrongIndexes(c) {
			for _, water := range []int{-1, 0, 9, 1000000, 1000001} {
				checkNoPour(t, c, k, water)
			}
		}
	}
}

func wrongIndexes(c impl.Chain) []int {
	return []int{math.MinInt, -10, -2, -1, len(c.Cisterns), len(c.Cisterns) + 1, len(c.Cisterns) + 10, math.MaxInt}
}

func TestTotalLevel(t *testing.T) {
	cases := []struct {
		c     impl.Chain
		total int
	}{
		{twoIntoOne(), 14}, {twistedChain(), 18}, {emptyChain(-1), 0}, {longChain(10), 0}, {chain([]int{-1}, cistern(30, 20)), 20},
		{chain([]int{-1, -1}, cistern(30, 20), cistern(10, 4)), 24}, {chain([]int{1, -1}, cistern(5, 5), cistern(6, 6)), 11},
		{chain([]int{-1}, cistern(1000000, 1000000)), 1000000},
		{chain(longChain(10).Next, slices.Repeat([]impl.Cistern{cistern(1000000, 1000000)}, 10)...), 10000000},
	}
	for _, c := range cases {
		if total := impl.TotalLevel(c.c); total != c.total {
			t.Errorf("TotalLevel(%v): %d", c.c, total)
		}
	}
	for _, c := range invalidChains() {
		if total := impl.TotalLevel(c); total != -1 {
			t.Errorf("TotalLevel(%v): %d", c, total)
		}
	}
}

func TestWayOf(t *testing.T) {
	cases := []struct {
		c   impl.Chain
		k   int
		way []int
	}{
		{twoIntoOne(), 0, []int{0, 2}}, {twoIntoOne(), 1, []int{1, 2}}, {twoIntoOne(), 2, []int{2}},
		{twistedChain(), 0, []int{0, 2, 1}}, {twistedChain(), 1, []int{1}}, {twistedChain(), 2, []int{2, 1}}, {twistedChain(), 3, []int{3, 2, 1}}, {twistedChain(), 4, []int{4}},
		{emptyChain(-1), 0, []int{0}}, {emptyChain(1, -1), 0, []int{0, 1}}, {emptyChain(-1, 0), 1, []int{1, 0}}, {emptyChain(-1, -1), 1, []int{1}},
		{longChain(10), 0, []int{0, 1, 2, 3, 4, 5, 6, 7, 8, 9}}, {longChain(10), 1, []int{1, 2, 3, 4, 5, 6, 7, 8, 9}}, {longChain(10), 9, []int{9}},
		{emptyChain(-1, 0, 1, 2, 3, 4, 5, 6, 7, 8), 9, []int{9, 8, 7, 6, 5, 4, 3, 2, 1, 0}},
	}
	for _, c := range cases {
		if way := impl.WayOf(c.c, c.k); !slices.Equal(way, c.way) {
			t.Errorf("WayOf(%v, %d): %v", c.c, c.k, way)
		}
	}
}

func TestRoomFrom(t *testing.T) {
	cases := []struct {
		c    impl.Chain
		k    int
		room int
	}{
		{twoIntoOne(), 0, 17}, {twoIntoOne(), 1, 20}, {twoIntoOne(), 2, 15},
		{twistedChain(), 0, 10}, {twistedChain(), 1, 5}, {twistedChain(), 2, 8}, {twistedChain(), 3, 8}, {twistedChain(), 4, 1},
		{emptyChain(-1), 0, 10}, {emptyChain(1, -1), 0, 20}, {emptyChain(1, -1), 1, 10}, {longChain(10), 0, 55}, {longChain(10), 9, 10},
		{chain([]int{1, -1}, cistern(5, 5), cistern(6, 6)), 0, 0}, {chain([]int{-1}, cistern(1000000, 0)), 0, 1000000},
		// More than can be poured in at once.
		{chain([]int{1, -1}, cistern(1000000, 0), cistern(1, 0)), 0, 1000001},
		{chain(longChain(10).Next, slices.Repeat([]impl.Cistern{cistern(1000000, 0)}, 10)...), 0, 10000000},
	}
	for _, c := range cases {
		if room := impl.RoomFrom(c.c, c.k); room != c.room {
			t.Errorf("RoomFrom(%v, %d): %d", c.c, c.k, room)
		}
	}
}

func TestInvalidWayOfAndRoomFrom(t *testing.T) {
	check := func(c impl.Chain, k int) {
		t.Helper()
		if way := impl.WayOf(c, k); len(way) != 0 {
			t.Errorf("WayOf(%v, %d): %v", c, k, way)
		}
		if room := impl.RoomFrom(c, k); room != -1 {
			t.Errorf("RoomFrom(%v, %d): %d", c, k, room)
		}
	}
	for _, c := range invalidChains() {
		for k := range c.Cisterns {
			check(c, k)
		}
		for k := range c.Next {
			check(c, k)
		}
		for _, k := range wrongIndexes(c) {
			check(c, k)
		}
	}
	for _, c := range validChains() {
		for _, k := range wrongIndexes(c) {
			check(c, k)
		}
	}
}

func TestCircleIn(t *testing.T) {
	cases := []struct{ next, circle []int }{
		{nil, nil}, {[]int{}, nil}, {[]int{-1}, nil}, {[]int{0}, []int{0}}, {[]int{1}, nil}, {[]int{-1, -1}, nil}, {[]int{1, -1}, nil},
		{[]int{1, 0}, []int{0, 1}}, {[]int{1, 1}, []int{1}}, {[]int{0, 0}, []int{0}}, {[]int{0, 1}, []int{0, 1}},
		{[]int{1, 2, 0, 0, -1}, []int{0, 1, 2}}, {[]int{1, 2, 3, 1, -1}, []int{1, 2, 3}}, {[]int{3, 3, 3, 3}, []int{3}},
		{[]int{4, 0, 0, 1, 2}, []int{0, 2, 4}}, {[]int{2, 3, 0, 1, 5, 4}, []int{0, 1, 2, 3, 4, 5}}, {[]int{3, -1, 2, 1, 6, 4, 5, 0}, []int{2, 4, 5, 6}},
		{[]int{5, 4, 3, 2, 1, 0, 0, 6}, []int{0, 1, 2, 3, 4, 5}}, {[]int{1, 2, 3, 4, 5, 5}, []int{5}}, {[]int{2, 2, 3, 3}, []int{3}},
		// Numbers that are no index of the list end the way.
		{[]int{1, 2, 3}, nil}, {[]int{1, 2, 5}, nil}, {[]int{-7, 0, 1}, nil}, {[]int{1, 0, 4, 2}, []int{0, 1}}, {[]int{1, 0, 3, -2}, []int{0, 1}},
		{[]int{math.MinInt, math.MaxInt}, nil}, {[]int{math.MaxInt, 1, math.MinInt}, []int{1}}, {[]int{3, 2, 1}, []int{1, 2}},
	}
	for _, c := range cases {
		if circle := impl.CircleIn(c.next); !slices.Equal(circle, c.circle) {
			t.Errorf("CircleIn(%v): %v", c.next, circle)
		}
	}
}

// TestCircleInLimits has one great circle, single indices and no circle, for lists of up to 20 numbers and more.
func TestCircleInLimits(t *testing.T) {
	for numbers := range 60 {
		var all, around, lost []int
		for k := range numbers {
			all = append(all, k)
			around = append(around, (k+1)%numbers)
			lost = append(lost, k+1)
		}
		want := all
		if numbers > 20 {
			want = nil
		}
		if circle := impl.CircleIn(around); !slices.Equal(circle, want) {
			t.Errorf("a circle of %d numbers: %v", numbers, circle)
		}
		if circle := impl.CircleIn(all); !slices.Equal(circle, want) {
			t.Errorf("%d numbers that lead to themselves: %v", numbers, circle)
		}
		if circle := impl.CircleIn(lost); len(circle) != 0 {
			t.Errorf("%d numbers that lead out of the list: %v", numbers, circle)
		}
		if numbers < 2 {
			continue
		}
		// Index 0 leads into the circle of all others.
		around[numbers-1] = 1
		if circle := impl.CircleIn(around); !slices.Equal(circle, want[min(1, len(want)):]) {
			t.Errorf("a circle of %d numbers that index 0 leads into: %v", numbers-1, circle)
		}
	}
}

func TestCircleInOfEachList(t *testing.T) {
	for numbers := range 6 {
		eachList(numbers, -2, numbers+1, func(next []int) {
			if circle := impl.CircleIn(next); !slices.Equal(circle, plainCircle(next)) {
				t.Errorf("CircleIn(%v): %v", next, circle)
			}
		})
	}
	random := rand.New(rand.NewSource(5))
	for range 3000 {
		next := make([]int, 1+random.Intn(20))
		for k := range next {
			next[k] = random.Intn(len(next)+2) - 1
		}
		if circle := impl.CircleIn(next); !slices.Equal(circle, plainCircle(next)) {
			t.Errorf("CircleIn(%v): %v", next, circle)
		}
	}
}

// checkPourInto is promise 5, for one chain: what runs over goes on, and only what has no room is lost.
func checkPourInto(t *testing.T, c impl.Chain, k int, water int) {
	t.Helper()
	after, lost := impl.PourInto(c, k, water)
	if !impl.ChainOk(after) || !slices.Equal(after.Next, c.Next) || len(after.Cisterns) != len(c.Cisterns) {
		t.Fatalf("PourInto(%v, %d, %d) is no such chain: %v", c, k, water, after)
	}
	if lost < 0 || impl.TotalLevel(after)+lost != impl.TotalLevel(c)+water {
		t.Errorf("water appears or vanishes: PourInto(%v, %d, %d) is %v and %d", c, k, water, after, lost)
	}
	if lost != max(0, water-impl.RoomFrom(c, k)) {
		t.Errorf("what is lost is not what has no room: PourInto(%v, %d, %d) is %v and %d", c, k, water, after, lost)
	}
	way := impl.WayOf(c, k)
	arrived := water
	for _, at := range way {
		stayed := min(arrived, c.Cisterns[at].Room-c.Cisterns[at].Level)
		arrived -= stayed
		if after.Cisterns[at] != cistern(c.Cisterns[at].Room, c.Cisterns[at].Level+stayed) {
			t.Errorf("PourInto(%v, %d, %d) has in cistern %d: %v", c, k, water, at, after.Cisterns[at])
		}
	}
	for at := range c.Cisterns {
		if !slices.Contains(way, at) && after.Cisterns[at] != c.Cisterns[at] {
			t.Errorf("PourInto(%v, %d, %d) has in cistern %d, which is not on the way: %v", c, k, water, at, after.Cisterns[at])
		}
	}
}

func TestWhatRunsOverGoesOn(t *testing.T) {
	for _, c := range validChains() {
		for k := range c.Cisterns {
			for _, water := range someWaters() {
				checkPourInto(t, c, k, water)
			}
			room := impl.RoomFrom(c, k)
			for _, water := range []int{room - 1, room, room + 1} {
				if water >= 0 && water <= 1000000 {
					checkPourInto(t, c, k, water)
				}
			}
		}
	}
	random := rand.New(rand.NewSource(6))
	for range 2000 {
		c := randomChain(random, 1+random.Intn(1000000))
		if !impl.ChainOk(c) {
			t.Fatalf("%v is not valid", c)
		}
		checkPourInto(t, c, random.Intn(len(c.Cisterns)), random.Intn(1000001))
	}
}

// TestEachLiterOfAChain holds PourInto against one liter after the other.
func TestEachLiterOfAChain(t *testing.T) {
	random := rand.New(rand.NewSource(7))
	for range 1000 {
		c := randomChain(random, 1+random.Intn(12))
		for k := range c.Cisterns {
			water := random.Intn(40)
			want, wantLost := pourByLiters(c, k, water)
			if after, lost := impl.PourInto(c, k, water); !sameChain(after, want) || lost != wantLost {
				t.Errorf("PourInto(%v, %d, %d): %v and %d instead of %v and %d", c, k, water, after, lost, want, wantLost)
			}
		}
	}
}

// TestEachWayEnds checks the steps of each way: from k on, each one the Next of the one before, and none after the last.
func TestEachWayEnds(t *testing.T) {
	random := rand.New(rand.NewSource(8))
	chains := validChains()
	for range 500 {
		chains = append(chains, randomChain(random, 100))
	}
	for _, c := range chains {
		for k := range c.Cisterns {
			way := impl.WayOf(c, k)
			if len(way) == 0 || way[0] != k || c.Next[way[len(way)-1]] != -1 {
				t.Errorf("WayOf(%v, %d): %v", c, k, way)
				continue
			}
			room := impl.SpaceIn(c.Cisterns[k])
			for i := 1; i < len(way); i++ {
				if way[i] != c.Next[way[i-1]] {
					t.Errorf("WayOf(%v, %d): %v", c, k, way)
				}
				room += impl.SpaceIn(c.Cisterns[way[i]])
			}
			if got := impl.RoomFrom(c, k); got != room {
				t.Errorf("RoomFrom(%v, %d): %d", c, k, got)
			}
		}
	}
}

// TestAFullWayLosesEverything pours into the chain that the first call returns.
func TestAFullWayLosesEverything(t *testing.T) {
	for _, c := range validChains() {
		for k := range c.Cisterns {
			room := impl.RoomFrom(c, k)
			if room > 1000000 {
				continue
			}
			full, lost := impl.PourInto(c, k, room)
			if lost != 0 || impl.RoomFrom(full, k) != 0 {
				t.Errorf("PourInto(%v, %d, %d): %v and %d", c, k, room, full, lost)
			}
			for _, water := range []int{0, 1, 1000000} {
				if after, lost := impl.PourInto(full, k, water); !sameChain(after, full) || lost != water {
					t.Errorf("PourInto(%v, %d, %d): %v and %d", full, k, water, after, lost)
				}
			}
		}
	}
}

// TestChainsAreNotChanged calls each function with lists that are parts of longer ones, and writes into the results.
func TestChainsAreNotChanged(t *testing.T) {
	cisterns := append(twoIntoOne().Cisterns, cistern(77, 7), cistern(77, 7))
	next := append(twoIntoOne().Next, 77, -77)
	cisternsBefore, nextBefore := slices.Clone(cisterns), slices.Clone(next)
	c := impl.Chain{Cisterns: cisterns[:3], Next: next[:3]}
	for range 2 {
		if !impl.ChainOk(c) || impl.TotalLevel(c) != 14 || impl.RoomFrom(c, 0) != 17 {
			t.Errorf("the chain is %v", c)
		}
		after, lost := impl.PourInto(c, 0, 18)
		if !slices.Equal(levelsIn(after), []int{10, 1, 20}) || lost != 1 {
			t.Errorf("poured in: %v and %d", after, lost)
		}
		spoil(after)
		checkNoPour(t, c, 0, -1)
		checkNoPour(t, c, 3, 1)
		way := impl.WayOf(c, 0)
		if !slices.Equal(way, []int{0, 2}) {
			t.Errorf("the way: %v", way)
		}
		way[0], way[1] = -99, -99
		_ = append(way, -99)
		circle := impl.CircleIn(next[:3])
		_ = append(circle, -99)
		// Index 2 of this part leads to itself; the numbers behind it do not belong to the list.
		next[2] = 2
		circle = impl.CircleIn(next[:3])
		if !slices.Equal(circle, []int{2}) {
			t.Errorf("the circle: %v", circle)
		}
		circle[0] = -99
		_ = append(circle, -99)
		if next[2] != 2 {
			t.Errorf("the numbers have become %v", next)
		}
		next[2] = -1
	}
	if !slices.Equal(cisterns, cisternsBefore) || !slices.Equal(next, nextBefore) {
		t.Errorf("the chain has become %v and %v", cisterns, next)
	}
}
