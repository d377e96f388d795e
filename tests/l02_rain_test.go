package tests

import (
	"math"
	"math/rand"
	"slices"
	"testing"

	"loop.example/g03307/impl"
)

func sameRain(days int, rain int) []int {
	return slices.Repeat([]int{rain}, days)
}

// withRain is so many dry days, of which the one of that index has another rain.
func withRain(days int, day int, rain int) []int {
	r := sameRain(days, 0)
	r[day] = rain
	return r
}

func someRain(random *rand.Rand, days int, most int) []int {
	r := make([]int, days)
	for i := range r {
		r[i] = random.Intn(most + 1)
	}
	return r
}

// validRains are years of all kinds: every short one with little rain, many with rain by chance, and the largest ones.
func validRains() [][]int {
	var rains [][]int
	var short [][]int
	short = append(short, nil)
	for range 7 {
		var longer [][]int
		for _, r := range short {
			for rain := range 3 {
				longer = append(longer, append(slices.Clone(r), rain))
			}
		}
		rains = append(rains, longer...)
		short = longer
	}
	random := rand.New(rand.NewSource(2))
	for _, most := range []int{0, 1, 3, 300} {
		for days := 1; days <= 30; days++ {
			rains = append(rains, someRain(random, days, most))
		}
		rains = append(rains, someRain(random, 399, most), someRain(random, 400, most))
	}
	return append(rains, sameRain(400, 0), sameRain(400, 300), withRain(400, 0, 300), withRain(400, 399, 300))
}

func invalidRains() [][]int {
	rains := [][]int{
		nil, {}, {-1}, {301}, {math.MinInt}, {math.MaxInt},
		{0, -1}, {-1, 0}, {300, 301}, {301, 300}, {1, 2, -1, 3}, {1, 2, 301, 3},
		{5, 5, 5, 5, 5, 5, -1}, {5, 5, 5, 5, 5, 5, 5, 301}, {-1, 1}, {-5, 300, 5}, {math.MaxInt, math.MaxInt}, {math.MinInt, math.MaxInt},
		sameRain(401, 0), sameRain(401, 1), sameRain(401, 300), sameRain(800, 1), sameRain(100000, 0),
	}
	for _, day := range []int{0, 1, 200, 398, 399} {
		rains = append(rains, withRain(400, day, -1), withRain(400, day, 301))
	}
	return rains
}

// plainSum is the sum of the days from first to before end.
func plainSum(rain []int, first int, end int) int {
	sum := 0
	for day := first; day < end; day++ {
		sum += rain[day]
	}
	return sum
}

func TestRainOk(t *testing.T) {
	for _, r := range validRains() {
		if !impl.RainOk(r) {
			t.Errorf("%d days are not valid: %.60v", len(r), r)
		}
	}
	for _, r := range invalidRains() {
		if impl.RainOk(r) {
			t.Errorf("%d days are valid: %.60v", len(r), r)
		}
	}
}

func TestRainLimits(t *testing.T) {
	cases := []struct {
		rain []int
		ok   bool
	}{
		{sameRain(1, 0), true}, {sameRain(1, 300), true}, {sameRain(1, 301), false}, {sameRain(1, -1), false},
		{sameRain(399, 300), true}, {sameRain(400, 300), true}, {sameRain(401, 300), false},
		{sameRain(400, 301), false}, {sameRain(400, 0), true}, {sameRain(400, -1), false}, {sameRain(401, 0), false},
	}
	for _, c := range cases {
		if ok := impl.RainOk(c.rain); ok != c.ok {
			t.Errorf("RainOk of %d days of %d: %v", len(c.rain), c.rain[0], ok)
		}
	}
}

func TestInvalidRain(t *testing.T) {
	for _, r := range invalidRains() {
		if n := impl.TotalRain(r); n != -1 {
			t.Errorf("TotalRain(%.60v): %d", r, n)
		}
		if n := impl.WettestDay(r); n != -1 {
			t.Errorf("WettestDay(%.60v): %d", r, n)
		}
		if n := impl.LongestDry(r); n != -1 {
			t.Errorf("LongestDry(%.60v): %d", r, n)
		}
		if day, sum := impl.WettestWeek(r); day != -1 || sum != -1 {
			t.Errorf("WettestWeek(%.60v): %d %d", r, day, sum)
		}
		if sums := impl.SumsOf(r); len(sums) != 0 {
			t.Errorf("SumsOf(%.60v): %v", r, sums)
		}
		for _, days := range []int{-1, 0, 1, 2, 7, 400, 401} {
			for _, sum := range []int{math.MinInt, -1, 0, 1, math.MaxInt} {
				if impl.HasWetPart(r, days, sum) {
					t.Errorf("HasWetPart(%.60v, %d, %d)", r, days, sum)
				}
			}
		}
	}
}

func TestTotalRain(t *testing.T) {
	cases := []struct {
		rain  []int
		total int
	}{
		{[]int{0}, 0}, {[]int{7}, 7}, {[]int{300}, 300}, {[]int{0, 4, 0, 0, 9, 1, 0, 2, 9}, 25},
		{[]int{1, 2, 3}, 6}, {sameRain(7, 0), 0}, {sameRain(400, 0), 0}, {sameRain(400, 1), 400}, {sameRain(400, 300), 120000},
		{withRain(400, 0, 5), 5}, {withRain(400, 399, 5), 5},
	}
	for _, c := range cases {
		if total := impl.TotalRain(c.rain); total != c.total {
			t.Errorf("TotalRain(%.60v): %d", c.rain, total)
		}
	}
}

func TestWettestDay(t *testing.T) {
	cases := []struct {
		rain []int
		day  int
	}{
		{[]int{0}, 0}, {[]int{300}, 0}, {[]int{1, 2}, 1}, {[]int{2, 1}, 0},
		{[]int{0, 4, 0, 0, 9, 1, 0, 2, 9}, 4}, {[]int{9, 1, 9}, 0}, {[]int{1, 9, 9, 9}, 1}, {[]int{3, 3, 4}, 2},
		{sameRain(5, 0), 0}, {sameRain(400, 0), 0}, {sameRain(400, 300), 0},
		{withRain(400, 0, 1), 0}, {withRain(400, 399, 1), 399}, {withRain(400, 200, 300), 200},
	}
	for _, c := range cases {
		if day := impl.WettestDay(c.rain); day != c.day {
			t.Errorf("WettestDay(%.60v): %d", c.rain, day)
		}
	}
}

func TestLongestDry(t *testing.T) {
	cases := []struct {
		rain []int
		days int
	}{
		{[]int{0}, 1}, {[]int{1}, 0}, {[]int{0, 0, 0}, 3}, {[]int{1, 1, 1}, 0}, {[]int{0, 1}, 1}, {[]int{1, 0}, 1},
		{[]int{0, 4, 0, 0, 9, 1, 0, 2, 9}, 2}, {[]int{0, 0, 1, 0}, 2}, {[]int{0, 1, 0, 0}, 2}, {[]int{0, 1, 0, 1, 0}, 1},
		{[]int{0, 0, 0, 1, 0, 0, 2, 0}, 3}, {[]int{5, 0, 0, 300, 0, 0, 0}, 3},
		{sameRain(400, 0), 400}, {sameRain(400, 300), 0},
		{withRain(400, 0, 1), 399}, {withRain(400, 399, 1), 399}, {withRain(400, 100, 1), 299},
	}
	for _, c := range cases {
		if days := impl.LongestDry(c.rain); days != c.days {
			t.Errorf("LongestDry(%.60v): %d", c.rain, days)
		}
	}
}

func TestWettestWeek(t *testing.T) {
	cases := []struct {
		name     string
		rain     []int
		day, sum int
	}{
		{"one day", []int{5}, 0, 5},
		{"one dry day", []int{0}, 0, 0},
		{"fewer than seven days", []int{1, 2, 3}, 0, 6},
		{"six days, the wettest one last", []int{0, 0, 0, 0, 0, 8}, 0, 8},
		{"six dry days", sameRain(6, 0), 0, 0},
		{"exactly seven days", []int{1, 2, 3, 4, 5, 6, 7}, 0, 28},
		{"seven days, the first one wet", withRain(7, 0, 9), 0, 9},
		{"eight days, the second week wetter", []int{1, 0, 0, 0, 0, 0, 0, 2}, 1, 2},
		{"eight days, the first week wetter", []int{2, 0, 0, 0, 0, 0, 0, 1}, 0, 2},
		{"eight days, both weeks the same", []int{2, 0, 1, 0, 0, 0, 0, 2}, 0, 3},
		{"nine days", []int{0, 4, 0, 0, 9, 1, 0, 2, 9}, 2, 21},
		{"the week in the middle", []int{0, 0, 0, 5, 5, 5, 5, 5, 5, 5, 0, 0, 0}, 3, 35},
		{"one wet day is in several weeks", withRain(20, 10, 3), 4, 3},
		{"two wet weeks apart", []int{0, 9, 0, 0, 0, 0, 0, 0, 0, 0, 0, 0, 0, 0, 0, 9, 0}, 0, 9},
		{"a wet last week", append(sameRain(10, 1), sameRain(7, 2)...), 10, 14},
		{"a dry year", sameRain(400, 0), 0, 0},
		{"the wettest year", sameRain(400, 300), 0, 2100},
		{"a wet last day of a year", withRain(400, 399, 1), 393, 1},
		{"a wet first day of a year", withRain(400, 0, 1), 0, 1},
	}
	for _, c := range cases {
		if day, sum := impl.WettestWeek(c.rain); day != c.day || sum != c.sum {
			t.Errorf("%s: %d %d", c.name, day, sum)
		}
	}
}

func TestSumsOf(t *testing.T) {
	cases := []struct{ rain, sums []int }{
		{[]int{0}, []int{0}}, {[]int{300}, []int{300}}, {[]int{1, 2, 3}, []int{1, 3, 6}}, {[]int{0, 0, 4, 0}, []int{0, 0, 4, 4}},
		{[]int{0, 4, 0, 0, 9, 1, 0, 2, 9}, []int{0, 4, 4, 4, 13, 14, 14, 16, 25}},
		{sameRain(6, 0), sameRain(6, 0)}, {sameRain(400, 0), sameRain(400, 0)}, {withRain(400, 0, 7), sameRain(400, 7)},
	}
	for _, c := range cases {
		if sums := impl.SumsOf(c.rain); !slices.Equal(sums, c.sums) {
			t.Errorf("SumsOf(%.60v): %.60v", c.rain, sums)
		}
	}
	wettest := impl.SumsOf(sameRain(400, 300))
	for day, sum := range wettest {
		if sum != 300*(day+1) {
			t.Errorf("sum up to day %d of the wettest year: %d", day, sum)
		}
	}
	if len(wettest) != 400 {
		t.Errorf("%d sums of 400 days", len(wettest))
	}
}

func TestHasWetPart(t *testing.T) {
	r := []int{0, 4, 0, 0, 9, 1, 0, 2, 9}
	cases := []struct {
		rain      []int
		days, sum int
		has       bool
	}{
		{r, 1, 9, true}, {r, 1, 10, false}, {r, 2, 11, true}, {r, 2, 12, false}, {r, 5, 21, true}, {r, 5, 22, false},
		{r, 9, 25, true}, {r, 9, 26, false}, {r, 9, 24, true}, {r, 8, 25, true}, {r, 8, 26, false},
		{[]int{5, 6, 0, 0}, 2, 11, true}, {[]int{0, 0, 5, 6}, 2, 11, true}, {[]int{5, 0, 6}, 2, 7, false},
		{r, 0, 0, false}, {r, -1, 0, false}, {r, 10, 0, false}, {r, 0, math.MinInt, false}, {r, 10, math.MinInt, false},
		{r, math.MinInt, 0, false}, {r, math.MaxInt, 0, false}, {r, math.MaxInt - 1, math.MinInt, false},
		{r, 1, 0, true}, {r, 1, -1, true}, {r, 1, math.MinInt, true}, {r, 9, math.MinInt, true}, {r, 9, math.MaxInt, false}, {r, 1, math.MaxInt, false},
		{[]int{0}, 1, 0, true}, {[]int{0}, 1, 1, false}, {[]int{0}, 2, 0, false}, {[]int{300}, 1, 300, true}, {[]int{300}, 1, 301, false},
		{sameRain(7, 0), 7, 0, true}, {sameRain(7, 0), 7, 1, false}, {sameRain(7, 0), 8, 0, false},
		{sameRain(400, 300), 400, 120000, true}, {sameRain(400, 300), 400, 120001, false}, {sameRain(400, 300), 401, 0, false},
		{withRain(400, 399, 3), 1, 3, true}, {withRain(400, 0, 3), 1, 3, true}, {withRain(400, 399, 3), 399, 3, true}, {withRain(400, 0, 3), 399, 4, false},
	}
	for _, c := range cases {
		if has := impl.HasWetPart(c.rain, c.days, c.sum); has != c.has {
			t.Errorf("HasWetPart(%.60v, %d, %d): %v", c.rain, c.days, c.sum, has)
		}
	}
}

// TestRainSumsNeverFall is the first half of promise 2, with what each sum is.
func TestRainSumsNeverFall(t *testing.T) {
	for _, r := range validRains() {
		sums := impl.SumsOf(r)
		if len(sums) != len(r) {
			t.Fatalf("%d sums of %.60v", len(sums), r)
		}
		for day, sum := range sums {
			if sum != plainSum(r, 0, day+1) || day > 0 && sum < sums[day-1] {
				t.Errorf("sum up to day %d of %.60v: %d", day, r, sum)
			}
		}
		if total := impl.TotalRain(r); total != sums[len(sums)-1] {
			t.Errorf("TotalRain(%.60v): %d", r, total)
		}
	}
}

// TestNoWeekIsWetter is the second half of promise 2, with the week that is the first one.
func TestNoWeekIsWetter(t *testing.T) {
	for _, r := range validRains() {
		length := min(7, len(r))
		day, sum := impl.WettestWeek(r)
		if day < 0 || day+length > len(r) || sum != plainSum(r, day, day+length) {
			t.Errorf("WettestWeek(%.60v): %d %d", r, day, sum)
			continue
		}
		for other := 0; other+length <= len(r); other++ {
			week := plainSum(r, other, other+length)
			if week > sum || week == sum && other < day {
				t.Errorf("the week from day %d of %.60v: %d %d", other, r, day, sum)
			}
		}
		if !impl.HasWetPart(r, length, sum) || impl.HasWetPart(r, length, sum+1) {
			t.Errorf("the wettest week of %.60v is not its wettest part: %d", r, sum)
		}
	}
}

func TestNoDayIsWetter(t *testing.T) {
	for _, r := range validRains() {
		if day := impl.WettestDay(r); day != slices.Index(r, slices.Max(r)) {
			t.Errorf("WettestDay(%.60v): %d", r, day)
		}
	}
}

func TestNoDryPartIsLonger(t *testing.T) {
	for _, r := range validRains() {
		want := 0
		for first := range r {
			end := first
			for end < len(r) && r[end] == 0 {
				end++
			}
			want = max(want, end-first)
		}
		if days := impl.LongestDry(r); days != want {
			t.Errorf("LongestDry(%.60v): %d", r, days)
		}
	}
}

func TestWetPartsOfEachLength(t *testing.T) {
	for _, r := range validRains() {
		if len(r) > 12 {
			continue
		}
		for days := 1; days <= len(r); days++ {
			most := 0
			for first := 0; first+days <= len(r); first++ {
				most = max(most, plainSum(r, first, first+days))
			}
			if !impl.HasWetPart(r, days, most) || impl.HasWetPart(r, days, most+1) || !impl.HasWetPart(r, days, most-1) {
				t.Errorf("HasWetPart(%v, %d) at %d", r, days, most)
			}
		}
	}
}

func TestRainIsNotChanged(t *testing.T) {
	memory := []int{3, 0, 9, 0, 0, 2, 1, 9, 77, -77}
	before := slices.Clone(memory)
	r := memory[:8]
	impl.RainOk(r)
	impl.TotalRain(r)
	impl.WettestDay(r)
	impl.LongestDry(r)
	impl.WettestWeek(r)
	impl.HasWetPart(r, 3, 9)
	sums := impl.SumsOf(r)
	for i := range sums {
		sums[i] = -1
	}
	_ = append(sums, -1)
	if !slices.Equal(memory, before) {
		t.Errorf("the rain has become %v", memory)
	}
	if again := impl.SumsOf(r); !slices.Equal(again, []int{3, 3, 12, 12, 12, 14, 15, 24}) {
		t.Errorf("the sums of a second call: %v", again)
	}
}
