package tests

import (
	"math"
	"math/rand"
	"slices"
	"sync"
	"testing"

	"loop.example/g03307/impl"
)

func year(room int, start int, need int, catch ...int) impl.Year {
	return impl.Year{Room: room, Start: start, Catch: catch, Need: need}
}

// withCatch is a year of so many days without rain, of which the one of that index has another Catch.
func withCatch(days int, day int, liters int) impl.Year {
	y := year(1000, 500, 3, make([]int, days)...)
	y.Catch[day] = liters
	return y
}

// someYear is a year by chance of up to so many days, some of them without rain.
func someYear(random *rand.Rand, mostDays int, mostRoom int, mostCatch int, mostNeed int) impl.Year {
	room := 1 + random.Intn(mostRoom)
	y := year(room, random.Intn(room+1), random.Intn(mostNeed+1))
	for range 1 + random.Intn(mostDays) {
		liters := 0
		if random.Intn(3) > 0 {
			liters = random.Intn(mostCatch + 1)
		}
		y.Catch = append(y.Catch, liters)
	}
	return y
}

// smallYears are all years of up to 3 days with a Room of up to 4, and a Need and Catches of up to 5.
func smallYears() []impl.Year {
	var years []impl.Year
	for _, c := range smallCisterns() {
		if c.Room > 4 {
			continue
		}
		for need := range 6 {
			for days := 1; days <= 3; days++ {
				eachList(days, 0, 5, func(catch []int) {
					years = append(years, year(c.Room, c.Level, need, catch...))
				})
			}
		}
	}
	return years
}

// validYears are years at the limits and years by chance.
func validYears() []impl.Year {
	years := []impl.Year{
		year(1, 0, 0, 0), year(1, 1, 1, 0), year(1, 0, 1, 1), year(1, 1, 1000000, 300000), year(1000000, 0, 0, 0), year(1000000, 1000000, 1000000, 300000),
		year(20, 5, 8, 0, 30, 0, 0), year(30, 0, 31, 30, 30), year(30, 30, 0, 1), year(30, 30, 30, 0, 30, 29, 31),
		withCatch(1, 0, 300000), withCatch(400, 0, 300000), withCatch(400, 399, 300000), withCatch(400, 200, 299999), withCatch(399, 0, 1),
		year(1000000, 1000000, 0, sameRain(400, 300000)...), year(1000000, 0, 1000000, sameRain(400, 300000)...), year(1000000, 0, 2500, sameRain(400, 0)...),
		year(1000000, 1000000, 2500, sameRain(400, 0)...), year(1000000, 999999, 2500, sameRain(400, 0)...), year(1, 0, 300000, sameRain(400, 300000)...),
	}
	random := rand.New(rand.NewSource(9))
	for range 200 {
		years = append(years, someYear(random, 400, 1000000, 300000, 1000000), someYear(random, 400, 1000000, 300000, 150000),
			someYear(random, 30, 100, 60, 40), someYear(random, 30, 10, 12, 12))
	}
	return years
}

func invalidYears() []impl.Year {
	years := []impl.Year{
		{}, year(20, 5, 8), {Room: 20, Start: 5, Catch: []int{}, Need: 8}, {Room: 20}, {Catch: []int{1}}, {Need: 8},
		year(20, 5, 8, sameRain(401, 0)...), year(20, 5, 8, sameRain(401, 7)...), year(20, 5, 8, sameRain(402, 0)...), year(20, 5, 8, sameRain(100000, 0)...),
		year(20, 5, -1, 0, 30), year(20, 5, -8, 0, 30), year(20, 5, 1000001, 0, 30), year(20, 5, math.MinInt, 0, 30), year(20, 5, math.MaxInt, 0, 30),
		year(20, 5, 8, -1), year(20, 5, 8, 300001), year(20, 5, 8, -1, 1), year(20, 5, 8, 1, -1), year(20, 5, 8, 300001, 0), year(20, 5, 8, 0, 300001),
		year(20, 5, 8, 1, -1, 1), year(20, 5, 8, 1, 300001, 1), year(20, 5, 8, math.MinInt), year(20, 5, 8, math.MaxInt), year(20, 5, 8, math.MaxInt, math.MaxInt),
		year(math.MaxInt, math.MaxInt, math.MaxInt, math.MaxInt), year(math.MinInt, math.MinInt, math.MinInt, math.MinInt),
		year(0, 0, 1000001, -1), year(20, 21, -1, sameRain(401, -1)...),
	}
	for _, day := range []int{0, 1, 200, 398, 399} {
		years = append(years, withCatch(400, day, -1), withCatch(400, day, 300001))
	}
	for _, wrong := range invalidCisterns() {
		years = append(years, year(wrong.Room, wrong.Level, 8, 0, 30, 0, 0), year(wrong.Room, wrong.Level, 0, 0), year(wrong.Room, wrong.Level, -1))
	}
	return years
}

// yearWater is what the functions of the chapter return for a year.
type yearWater struct {
	levels, short    []int
	lost, taken, dry int
}

func waterOf(y impl.Year) yearWater {
	return yearWater{impl.LevelsOf(y), impl.ShortDays(y), impl.LostWater(y), impl.TakenWater(y), impl.DryDays(y)}
}

func sameYearWater(a yearWater, b yearWater) bool {
	return slices.Equal(a.levels, b.levels) && slices.Equal(a.short, b.short) && a.lost == b.lost && a.taken == b.taken && a.dry == b.dry
}

// litersOf is what the functions of the chapter must return, one liter at a time.
func litersOf(y impl.Year) yearWater {
	var w yearWater
	level := y.Start
	for day, liters := range y.Catch {
		for range liters {
			if level == y.Room {
				w.lost++
			} else {
				level++
			}
		}
		drawn := 0
		for drawn < y.Need && level > 0 {
			level--
			drawn++
		}
		if drawn != y.Need {
			w.short = append(w.short, day)
		}
		if level == 0 {
			w.dry++
		}
		w.taken += drawn
		w.levels = append(w.levels, level)
	}
	return w
}

func sumOf(list []int) int {
	sum := 0
	for _, n := range list {
		sum += n
	}
	return sum
}

func TestYearOk(t *testing.T) {
	for _, y := range slices.Concat(validYears(), smallYears()) {
		if !impl.YearOk(y) {
			t.Errorf("%v is not valid", y)
		}
	}
	for _, y := range invalidYears() {
		if impl.YearOk(y) {
			t.Errorf("%v is valid", y)
		}
	}
}

func TestYearRoomAndStartLimits(t *testing.T) {
	cases := []struct {
		room, start int
		ok          bool
	}{
		{0, 0, false}, {1, 0, true}, {1, 1, true}, {1, 2, false}, {1, -1, false}, {2, 2, true}, {-1, 0, false}, {-1, -1, false},
		{20, -1, false}, {20, 0, true}, {20, 1, true}, {20, 19, true}, {20, 20, true}, {20, 21, false},
		{999999, 999999, true}, {999999, 1000000, false},
		{1000000, -1, false}, {1000000, 0, true}, {1000000, 999999, true}, {1000000, 1000000, true}, {1000000, 1000001, false},
		{1000001, 0, false}, {1000001, 1000000, false}, {1000001, 1000001, false},
	}
	for _, c := range cases {
		for _, y := range []impl.Year{year(c.room, c.start, 8, 0, 30), year(c.room, c.start, 0, 0), year(c.room, c.start, 1000000, 300000)} {
			if ok := impl.YearOk(y); ok != c.ok {
				t.Errorf("YearOk(%v): %v", y, ok)
			}
		}
	}
}

func TestYearLengths(t *testing.T) {
	for days := range 420 {
		for _, liters := range []int{0, 7, 300000} {
			if ok := impl.YearOk(year(20, 5, 8, sameRain(days, liters)...)); ok != (days >= 1 && days <= 400) {
				t.Errorf("a year of %d days with %d liters each: %v", days, liters, ok)
			}
		}
	}
}

// TestYearCatchLimits gives the first day, the last day and days between them each Catch, while the others are without rain.
func TestYearCatchLimits(t *testing.T) {
	catches := []struct {
		liters int
		ok     bool
	}{
		{math.MinInt, false}, {-2, false}, {-1, false}, {0, true}, {1, true}, {299999, true}, {300000, true}, {300001, false}, {300002, false}, {math.MaxInt, false},
	}
	for _, days := range []int{1, 2, 3, 399, 400} {
		for _, day := range []int{0, 1, days / 2, days - 2, days - 1} {
			if day < 0 || day >= days {
				continue
			}
			for _, c := range catches {
				if ok := impl.YearOk(withCatch(days, day, c.liters)); ok != c.ok {
					t.Errorf("a Catch of %d on day %d of %d: %v", c.liters, day, days, ok)
				}
			}
		}
	}
}

func TestYearNeedLimits(t *testing.T) {
	cases := []struct {
		need int
		ok   bool
	}{
		{math.MinInt, false}, {-2, false}, {-1, false}, {0, true}, {1, true}, {20, true}, {21, true}, {30, true},
		{999999, true}, {1000000, true}, {1000001, false}, {1000002, false}, {math.MaxInt, false},
	}
	for _, c := range cases {
		// The Need may be greater than Room, also where all days are without rain.
		for _, y := range []impl.Year{year(20, 5, c.need, 0, 30, 0, 0), year(1, 0, c.need, 0), year(1000000, 1000000, c.need, 300000)} {
			if ok := impl.YearOk(y); ok != c.ok {
				t.Errorf("YearOk(%v): %v", y, ok)
			}
		}
	}
}

// yearCase is a year, and what the functions of the chapter must return for it.
type yearCase struct {
	name string
	y    impl.Year
	want yearWater
}

func yearCases() []yearCase {
	return []yearCase{
		{"days with and without rain", year(20, 5, 8, 0, 30, 0, 0), yearWater{[]int{0, 12, 4, 0}, []int{0, 3}, 10, 25, 2}},
		{"a year without any rain", year(20, 20, 6, 0, 0, 0, 0, 0), yearWater{[]int{14, 8, 2, 0, 0}, []int{3, 4}, 0, 20, 2}},
		{"a year without any rain and without Need", year(20, 5, 0, 0, 0, 0), yearWater{[]int{5, 5, 5}, nil, 0, 0, 0}},
		{"a year without any rain, without Need, and empty", year(20, 0, 0, 0, 0, 0), yearWater{[]int{0, 0, 0}, nil, 0, 0, 3}},
		{"a year without any rain, and empty", year(20, 0, 8, 0, 0), yearWater{[]int{0, 0}, []int{0, 1}, 0, 0, 2}},
		{"a day without rain between others", year(20, 0, 4, 6, 0, 6), yearWater{[]int{2, 0, 2}, []int{1}, 0, 10, 1}},
		{"a day without rain at the end", year(20, 0, 4, 8, 0), yearWater{[]int{4, 0}, nil, 0, 8, 1}},
		{"one day without rain", year(20, 5, 3, 0), yearWater{[]int{2}, nil, 0, 3, 0}},
		{"one day on which just Need is there", year(20, 5, 8, 3), yearWater{[]int{0}, nil, 0, 8, 1}},
		{"one day on which a liter less than Need is there", year(20, 5, 8, 2), yearWater{[]int{0}, []int{0}, 0, 7, 1}},
		{"one day on which a liter more than Need is there", year(20, 5, 8, 4), yearWater{[]int{1}, nil, 0, 8, 0}},
		{"just Need, and a liter less, without rain", year(20, 8, 4, 0, 0, 3), yearWater{[]int{4, 0, 0}, []int{2}, 0, 11, 2}},
		{"a Catch that just fills the cistern", year(20, 5, 8, 15), yearWater{[]int{12}, nil, 0, 8, 0}},
		{"a Catch that fills the cistern, and a liter more", year(20, 5, 8, 16), yearWater{[]int{12}, nil, 1, 8, 0}},
		{"a Catch of a liter less than fills the cistern", year(20, 5, 8, 14), yearWater{[]int{11}, nil, 0, 8, 0}},
		{"Catches that just fill the cistern, and a liter more, later", year(20, 20, 8, 0, 16, 8, 9, 7), yearWater{[]int{12, 12, 12, 12, 11}, nil, 9, 40, 0}},
		{"what is drawn on a day makes no space for its own Catch", year(10, 10, 10, 10), yearWater{[]int{0}, nil, 10, 10, 1}},
		{"what is caught on a day can be drawn on it", year(10, 0, 10, 10), yearWater{[]int{0}, nil, 0, 10, 1}},
		{"a full cistern and one liter", year(20, 20, 0, 1), yearWater{[]int{20}, nil, 1, 0, 0}},
		{"a full cistern without Need", year(20, 20, 0, 30, 0, 7), yearWater{[]int{20, 20, 20}, nil, 37, 0, 0}},
		{"a Need of just Room", year(20, 0, 20, 20, 19, 21), yearWater{[]int{0, 0, 0}, []int{1}, 1, 59, 3}},
		{"a Need that is a liter greater than Room", year(20, 20, 21, 0, 30, 21), yearWater{[]int{0, 0, 0}, []int{0, 1, 2}, 11, 60, 3}},
		{"the greatest Need", year(20, 5, 1000000, 30, 0, 7), yearWater{[]int{0, 0, 0}, []int{0, 1, 2}, 15, 27, 3}},
		{"the greatest Need, and just this there", year(1000000, 700000, 1000000, 300000), yearWater{[]int{0}, nil, 0, 1000000, 1}},
		{"the greatest Need, and a liter less there", year(1000000, 699999, 1000000, 300000), yearWater{[]int{0}, []int{0}, 0, 999999, 1}},
		{"a liter less than the greatest Need", year(1000000, 700000, 999999, 300000), yearWater{[]int{1}, nil, 0, 999999, 0}},
		{"a short day, and enough on the days around it", year(20, 8, 8, 0, 7, 8), yearWater{[]int{0, 0, 0}, []int{1}, 0, 23, 3}},
		{"the least cistern", year(1, 1, 1, 0, 1, 2, 0), yearWater{[]int{0, 0, 0, 0}, []int{3}, 1, 3, 4}},
		{"the least cistern without Need", year(1, 0, 0, 0, 1, 0), yearWater{[]int{0, 1, 1}, nil, 0, 0, 1}},
		{"the most Catch on the first day", year(20, 0, 8, 300000, 0, 0), yearWater{[]int{12, 4, 0}, []int{2}, 299980, 20, 1}},
		{"the most Catch on the last day", year(20, 20, 8, 0, 0, 300000), yearWater{[]int{12, 4, 12}, nil, 299984, 24, 0}},
	}
}

// longYearCases are years of the most days.
func longYearCases() []yearCase {
	var eachDay, falling, fallingFaster []int
	for day := range 400 {
		eachDay = append(eachDay, day)
		falling = append(falling, 1000000-2500*(day+1))
		fallingFaster = append(fallingFaster, max(1000000-2506*(day+1), 0))
	}
	dry, wet := sameRain(400, 0), sameRain(400, 300000)
	return []yearCase{
		{"no rain, and just enough for all days", year(1000000, 1000000, 2500, dry...), yearWater{falling, nil, 0, 1000000, 1}},
		{"no rain, and too little for the last day", year(1000000, 1000000, 2506, dry...), yearWater{fallingFaster, []int{399}, 0, 1000000, 1}},
		{"no rain, nothing there, and no Need", year(1000000, 0, 0, dry...), yearWater{dry, nil, 0, 0, 400}},
		{"no rain, nothing there, and the least Need", year(1000000, 0, 1, dry...), yearWater{dry, eachDay, 0, 0, 400}},
		{"no rain, a full cistern, and no Need", year(1000000, 1000000, 0, dry...), yearWater{sameRain(400, 1000000), nil, 0, 0, 0}},
		{"the most Catch into a full cistern without Need", year(1000000, 1000000, 0, wet...), yearWater{sameRain(400, 1000000), nil, 120000000, 0, 0}},
		{"the most Catch and the most Need", year(1000000, 0, 1000000, wet...), yearWater{dry, eachDay, 0, 120000000, 400}},
		{"the most Catch and a Need of just this", year(1000000, 0, 300000, wet...), yearWater{dry, nil, 0, 120000000, 400}},
		{"the most Catch and a Need of a liter less", year(1000000, 999999, 299999, wet...), yearWater{sameRain(400, 700001), nil, 300398, 119999600, 0}},
		{"the most Catch into the least cistern", year(1, 0, 1000000, wet...), yearWater{dry, eachDay, 119999600, 400, 400}},
	}
}

func TestYear(t *testing.T) {
	for _, c := range slices.Concat(yearCases(), longYearCases()) {
		if got := waterOf(c.y); !sameYearWater(got, c.want) {
			t.Errorf("%s: %v instead of %v", c.name, got, c.want)
		}
	}
}

func TestInvalidYear(t *testing.T) {
	for _, y := range invalidYears() {
		if got := waterOf(y); !sameYearWater(got, yearWater{nil, nil, -1, -1, -1}) {
			t.Errorf("%v, which is not valid: %v", y, got)
		}
	}
}

// TestYearByLiters holds each function against one liter after the other.
func TestYearByLiters(t *testing.T) {
	years := smallYears()
	random := rand.New(rand.NewSource(10))
	for range 1000 {
		years = append(years, someYear(random, 40, 50, 30, 25))
	}
	for _, y := range years {
		if got, want := waterOf(y), litersOf(y); !sameYearWater(got, want) {
			t.Errorf("%v: %v instead of %v", y, got, want)
		}
	}
}

// checkYear is promise 6, for one year: what came in is drawn, lost or still there, and each day is as the one before it leaves it.
func checkYear(t *testing.T, y impl.Year) {
	t.Helper()
	w := waterOf(y)
	if len(w.levels) != len(y.Catch) {
		t.Fatalf("%v has %d levels", y, len(w.levels))
	}
	if w.lost < 0 || w.taken < 0 || y.Start+sumOf(y.Catch) != w.taken+w.lost+w.levels[len(w.levels)-1] {
		t.Errorf("water appears or vanishes: %v has %d taken and %d lost, and the levels %v", y, w.taken, w.lost, w.levels)
	}
	var short []int
	lost, taken, dry, level := 0, 0, 0, y.Start
	for day, liters := range y.Catch {
		full := min(level+liters, y.Room)
		lost += level + liters - full
		if full < y.Need {
			short = append(short, day)
		}
		level = max(full-y.Need, 0)
		taken += full - level
		if level == 0 {
			dry++
		}
		if w.levels[day] != level {
			t.Errorf("%v has after day %d the level %d instead of %d", y, day, w.levels[day], level)
		}
	}
	if !sameYearWater(w, yearWater{w.levels, short, lost, taken, dry}) {
		t.Errorf("%v: %v", y, w)
	}
}

func TestWhatCameInIsDrawnLostOrThere(t *testing.T) {
	for _, y := range slices.Concat(validYears(), smallYears()) {
		checkYear(t, y)
	}
	for _, c := range slices.Concat(yearCases(), longYearCases()) {
		checkYear(t, c.y)
	}
}

// TestTwoPartsOfAYear ends a year after each number of days: another year that starts with what is then there has the days after it.
func TestTwoPartsOfAYear(t *testing.T) {
	random := rand.New(rand.NewSource(11))
	for range 200 {
		y := someYear(random, 40, 60, 40, 30)
		whole := waterOf(y)
		for days := 1; days < len(y.Catch); days++ {
			first := waterOf(year(y.Room, y.Start, y.Need, y.Catch[:days]...))
			second := waterOf(year(y.Room, first.levels[days-1], y.Need, y.Catch[days:]...))
			short := first.short
			for _, day := range second.short {
				short = append(short, days+day)
			}
			both := yearWater{slices.Concat(first.levels, second.levels), short, first.lost + second.lost, first.taken + second.taken, first.dry + second.dry}
			if !sameYearWater(both, whole) {
				t.Errorf("%v, in two parts after %d days: %v instead of %v", y, days, both, whole)
			}
		}
	}
}

// TestDaysWithoutRain draws from what is there at first, and nothing else.
func TestDaysWithoutRain(t *testing.T) {
	for _, days := range []int{1, 2, 7, 30, 399, 400} {
		for _, start := range []int{0, 1, 6, 7, 8, 50, 99, 100} {
			for _, need := range []int{0, 1, 6, 7, 8, 99, 100, 101, 1000000} {
				y := year(100, start, need, sameRain(days, 0)...)
				w := waterOf(y)
				if w.lost != 0 || w.taken != min(start, days*need) || w.levels[days-1] != start-w.taken {
					t.Errorf("%d days without rain, a Start of %d and a Need of %d: %v", days, start, need, w)
				}
				enough := days
				if need > 0 {
					enough = min(days, start/need)
				}
				if len(w.short) != days-enough || len(w.short) > 0 && w.short[0] != enough {
					t.Errorf("%d days without rain, a Start of %d and a Need of %d are short on %v", days, start, need, w.short)
				}
				checkYear(t, y)
			}
		}
	}
}

// TestShortDaysAreDry checks that each short day ends at a level of 0. Not each day that ends there is short.
func TestShortDaysAreDry(t *testing.T) {
	for _, y := range slices.Concat(validYears(), smallYears()) {
		w := waterOf(y)
		for _, day := range w.short {
			if w.levels[day] != 0 {
				t.Errorf("%v is short on day %d, and has the level %d", y, day, w.levels[day])
			}
		}
		if !slices.IsSorted(w.short) || len(slices.Compact(slices.Clone(w.short))) != len(w.short) || len(w.short) > w.dry {
			t.Errorf("%v has %d dry days and the short days %v", y, w.dry, w.short)
		}
	}
}

// TestYearIsNotChanged calls each function with a Catch that is a part of a longer list, and writes into the results.
func TestYearIsNotChanged(t *testing.T) {
	catch := []int{0, 30, 0, 0, 77, -77}
	before := slices.Clone(catch)
	y := year(20, 5, 8, catch[:4]...)
	for range 3 {
		w := waterOf(y)
		if !impl.YearOk(y) || !sameYearWater(w, yearWater{[]int{0, 12, 4, 0}, []int{0, 3}, 10, 25, 2}) {
			t.Errorf("the year has become %v", w)
		}
		for _, list := range [][]int{w.levels, w.short} {
			list[0] = -99
			_ = append(list, -99)
		}
	}
	if !slices.Equal(catch, before) {
		t.Errorf("the catches have become %v", catch)
	}
}

// TestYearsAtTheSameTime calls the functions from many goroutines: no year gets days of another one.
func TestYearsAtTheSameTime(t *testing.T) {
	var all sync.WaitGroup
	for _, c := range slices.Concat(yearCases(), longYearCases()) {
		all.Go(func() {
			for range 20 {
				if got := waterOf(c.y); !sameYearWater(got, c.want) {
					t.Errorf("%s: %v instead of %v", c.name, got, c.want)
				}
			}
		})
	}
	all.Wait()
}
