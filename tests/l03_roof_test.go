package tests

import (
	"math"
	"math/rand"
	"slices"
	"testing"

	"loop.example/g03307/impl"
)

func roof(area int, percent int) impl.Roof {
	return impl.Roof{Area: area, Percent: percent}
}

func sameRoofs(roofs int, r impl.Roof) []impl.Roof {
	return slices.Repeat([]impl.Roof{r}, roofs)
}

// validRoofs are roofs of all kinds, with the limits of Area and Percent and their neighbors.
func validRoofs() []impl.Roof {
	var roofs []impl.Roof
	for _, area := range []int{1, 2, 3, 7, 33, 50, 99, 100, 101, 500, 999, 1000} {
		for _, percent := range []int{0, 1, 2, 33, 49, 50, 51, 80, 99, 100} {
			roofs = append(roofs, roof(area, percent))
		}
	}
	return roofs
}

func invalidRoofs() []impl.Roof {
	return []impl.Roof{
		{}, roof(0, 0), roof(0, 1), roof(0, 50), roof(0, 100), roof(-1, 50), roof(-1, 0), roof(1001, 50), roof(1001, 0), roof(1001, 100),
		roof(1, -1), roof(1, 101), roof(50, -1), roof(50, 101), roof(1000, -1), roof(1000, 101),
		roof(-1, -1), roof(-50, -80), roof(0, 101), roof(0, -1), roof(1001, 101), roof(1001, -1),
		roof(math.MinInt, 50), roof(math.MaxInt, 50), roof(50, math.MinInt), roof(50, math.MaxInt),
		roof(math.MinInt, math.MinInt), roof(math.MaxInt, math.MaxInt), roof(math.MinInt, 0), roof(math.MaxInt, 0),
	}
}

func someRains() []int {
	return []int{0, 1, 2, 3, 7, 10, 33, 50, 99, 100, 101, 150, 298, 299, 300}
}

func wrongRains() []int {
	return []int{math.MinInt, -300, -2, -1, 301, 302, 1000, math.MaxInt}
}

// plainCatch is the greatest number of liters of which each one is full: 100 hundredths.
func plainCatch(r impl.Roof, rain int) int {
	hundredths := r.Area * rain * r.Percent
	return (hundredths - hundredths%100) / 100
}

func TestRoofOk(t *testing.T) {
	for _, r := range validRoofs() {
		if !impl.RoofOk(r) {
			t.Errorf("%v is not valid", r)
		}
	}
	for _, r := range invalidRoofs() {
		if impl.RoofOk(r) {
			t.Errorf("%v is valid", r)
		}
	}
}

func TestRoofLimits(t *testing.T) {
	for area := -3; area <= 1003; area++ {
		if ok := impl.RoofOk(roof(area, 50)); ok != (area >= 1 && area <= 1000) {
			t.Errorf("an Area of %d: %v", area, ok)
		}
	}
	for percent := -3; percent <= 103; percent++ {
		if ok := impl.RoofOk(roof(50, percent)); ok != (percent >= 0 && percent <= 100) {
			t.Errorf("a Percent of %d: %v", percent, ok)
		}
	}
}

func TestCatch(t *testing.T) {
	cases := []struct {
		roof         impl.Roof
		rain, liters int
	}{
		{roof(50, 80), 3, 120}, {roof(50, 80), 10, 400}, {roof(40, 100), 7, 280}, {roof(120, 75), 20, 1800},
		{roof(1, 100), 1, 1}, {roof(1, 100), 300, 300}, {roof(1000, 100), 1, 1000}, {roof(1000, 100), 300, 300000}, {roof(1000, 1), 300, 3000},
	}
	for _, c := range cases {
		if liters := impl.Catch(c.roof, c.rain); liters != c.liters {
			t.Errorf("Catch(%v, %d): %d", c.roof, c.rain, liters)
		}
	}
}

func TestCatchRoundsDown(t *testing.T) {
	cases := []struct {
		roof         impl.Roof
		rain, liters int
	}{
		{roof(1, 1), 1, 0}, {roof(1, 50), 1, 0}, {roof(1, 99), 1, 0}, {roof(99, 1), 1, 0}, {roof(100, 1), 1, 1}, {roof(101, 1), 1, 1},
		{roof(1, 50), 2, 1}, {roof(1, 50), 3, 1}, {roof(1, 50), 4, 2}, {roof(1, 33), 3, 0}, {roof(1, 33), 4, 1},
		{roof(3, 33), 1, 0}, {roof(3, 67), 1, 2}, {roof(7, 43), 1, 3}, {roof(199, 1), 1, 1}, {roof(200, 1), 1, 2},
		{roof(1, 1), 99, 0}, {roof(1, 1), 100, 1}, {roof(1, 1), 199, 1}, {roof(1, 1), 300, 3}, {roof(1, 1), 299, 2},
		{roof(999, 99), 299, 295713}, {roof(999, 99), 300, 296703}, {roof(15, 15), 15, 33}, {roof(33, 33), 33, 359},
	}
	for _, c := range cases {
		if liters := impl.Catch(c.roof, c.rain); liters != c.liters {
			t.Errorf("Catch(%v, %d): %d", c.roof, c.rain, liters)
		}
	}
	for _, r := range validRoofs() {
		for _, rain := range someRains() {
			if liters := impl.Catch(r, rain); liters != plainCatch(r, rain) {
				t.Errorf("Catch(%v, %d): %d", r, rain, liters)
			}
		}
	}
}

func TestRoofsThatCatchNothing(t *testing.T) {
	for _, area := range []int{1, 2, 50, 999, 1000} {
		for _, rain := range someRains() {
			if liters := impl.Catch(roof(area, 0), rain); liters != 0 {
				t.Errorf("a roof of %d and 0 percent catches of %d: %d", area, rain, liters)
			}
			if liters := impl.CatchAll(sameRoofs(20, roof(area, 0)), rain); liters != 0 {
				t.Errorf("20 roofs of %d and 0 percent catch of %d: %d", area, rain, liters)
			}
			if least := impl.AreaFor(0, rain, 0); least != 1 {
				t.Errorf("the Area for nothing of a roof of 0 percent: %d", least)
			}
			if least := impl.AreaFor(1, rain, 0); least != -1 {
				t.Errorf("the Area for 1 of a roof of 0 percent: %d", least)
			}
		}
		if days := impl.CatchDays(roof(area, 0), []int{0, 1, 300}); !slices.Equal(days, []int{0, 0, 0}) {
			t.Errorf("a roof of %d and 0 percent catches: %v", area, days)
		}
	}
	for _, r := range validRoofs() {
		if liters := impl.Catch(r, 0); liters != 0 {
			t.Errorf("%v catches without rain: %d", r, liters)
		}
		if liters := impl.CatchAll([]impl.Roof{r, r}, 0); liters != 0 {
			t.Errorf("two of %v catch without rain: %d", r, liters)
		}
		if days := impl.CatchDays(r, []int{0, 0}); !slices.Equal(days, []int{0, 0}) {
			t.Errorf("%v catches on dry days: %v", r, days)
		}
	}
}

func TestInvalidCatch(t *testing.T) {
	for _, r := range invalidRoofs() {
		for _, rain := range slices.Concat(someRains(), wrongRains()) {
			if liters := impl.Catch(r, rain); liters != -1 {
				t.Errorf("Catch(%v, %d): %d", r, rain, liters)
			}
		}
	}
	for _, r := range validRoofs() {
		for _, rain := range wrongRains() {
			if liters := impl.Catch(r, rain); liters != -1 {
				t.Errorf("Catch(%v, %d): %d", r, rain, liters)
			}
		}
	}
}

func TestCatchAll(t *testing.T) {
	cases := []struct {
		name         string
		roofs        []impl.Roof
		rain, liters int
	}{
		{"one roof", []impl.Roof{roof(50, 80)}, 3, 120},
		{"two roofs", []impl.Roof{roof(50, 80), roof(1, 50)}, 3, 121},
		{"the same roof twice", []impl.Roof{roof(50, 80), roof(50, 80)}, 3, 240},
		{"three roofs", []impl.Roof{roof(10, 100), roof(100, 10), roof(20, 50)}, 10, 300},
		{"each roof is rounded down by itself", []impl.Roof{roof(1, 50), roof(1, 50)}, 1, 0},
		{"twenty roofs that are rounded down", sameRoofs(20, roof(1, 99)), 1, 0},
		{"twenty roofs", sameRoofs(20, roof(50, 80)), 3, 2400},
		{"the most that can be caught", sameRoofs(20, roof(1000, 100)), 300, 6000000},
		{"a roof of 0 percent between others", []impl.Roof{roof(5, 100), roof(9, 0), roof(6, 100)}, 1, 11},
		{"no rain", []impl.Roof{roof(50, 80), roof(60, 90)}, 0, 0},
	}
	for _, c := range cases {
		if liters := impl.CatchAll(c.roofs, c.rain); liters != c.liters {
			t.Errorf("%s: %d", c.name, liters)
		}
	}
}

// TestCatchAllOfNoRoofs follows the document's words: none of no roofs is -1, so no rain is wrong.
func TestCatchAllOfNoRoofs(t *testing.T) {
	for _, rain := range slices.Concat(someRains(), wrongRains()) {
		if liters := impl.CatchAll(nil, rain); liters != 0 {
			t.Errorf("no roofs catch of %d: %d", rain, liters)
		}
		if liters := impl.CatchAll([]impl.Roof{}, rain); liters != 0 {
			t.Errorf("an empty list of roofs catches of %d: %d", rain, liters)
		}
	}
}

func TestInvalidCatchAll(t *testing.T) {
	for _, roofs := range []int{21, 22, 40, 1000} {
		for _, r := range []impl.Roof{roof(50, 80), roof(50, 0), {}} {
			for _, rain := range []int{-1, 0, 3, 300, 301} {
				if liters := impl.CatchAll(sameRoofs(roofs, r), rain); liters != -1 {
					t.Errorf("%d of %v catch of %d: %d", roofs, r, rain, liters)
				}
			}
		}
	}
	for _, rain := range wrongRains() {
		for _, roofs := range []int{1, 2, 20} {
			if liters := impl.CatchAll(sameRoofs(roofs, roof(50, 80)), rain); liters != -1 {
				t.Errorf("%d roofs catch of %d: %d", roofs, rain, liters)
			}
		}
	}
	for _, wrong := range invalidRoofs() {
		for k := range 20 {
			roofs := sameRoofs(20, roof(50, 80))
			roofs[k] = wrong
			if liters := impl.CatchAll(roofs, 3); liters != -1 {
				t.Errorf("20 roofs with %v as number %d: %d", wrong, k, liters)
			}
		}
		if liters := impl.CatchAll([]impl.Roof{wrong}, 3); liters != -1 {
			t.Errorf("CatchAll of %v alone: %d", wrong, liters)
		}
	}
}

func TestCatchDays(t *testing.T) {
	cases := []struct {
		roof         impl.Roof
		rain, liters []int
	}{
		{roof(50, 80), []int{0, 3, 10}, []int{0, 120, 400}}, {roof(50, 80), []int{10, 3, 0, 3}, []int{400, 120, 0, 120}},
		{roof(1, 50), []int{1, 2, 3, 4, 5}, []int{0, 1, 1, 2, 2}}, {roof(1, 1), []int{99, 100, 300}, []int{0, 1, 3}},
		{roof(50, 80), []int{0}, []int{0}}, {roof(1000, 100), []int{300}, []int{300000}}, {roof(50, 0), []int{1, 300}, []int{0, 0}},
		{roof(1000, 100), sameRain(400, 300), sameRain(400, 300000)}, {roof(2, 50), withRain(400, 399, 9), withRain(400, 399, 9)},
	}
	for _, c := range cases {
		if liters := impl.CatchDays(c.roof, c.rain); !slices.Equal(liters, c.liters) {
			t.Errorf("CatchDays(%v, %.60v): %.60v", c.roof, c.rain, liters)
		}
	}
	for _, r := range validRoofs() {
		rain := someRains()
		liters := impl.CatchDays(r, rain)
		if len(liters) != len(rain) {
			t.Errorf("%d days of %d of %v", len(liters), len(rain), r)
			continue
		}
		for day := range rain {
			if liters[day] != impl.Catch(r, rain[day]) {
				t.Errorf("day %d of %v: %d", day, r, liters[day])
			}
		}
	}
}

func TestInvalidCatchDays(t *testing.T) {
	for _, r := range invalidRoofs() {
		for _, rain := range [][]int{{0, 3, 10}, {0}, nil, {-1}, sameRain(401, 1)} {
			if liters := impl.CatchDays(r, rain); len(liters) != 0 {
				t.Errorf("CatchDays(%v, %.60v): %.60v", r, rain, liters)
			}
		}
	}
	for _, rain := range invalidRains() {
		for _, r := range []impl.Roof{roof(50, 80), roof(1, 0), roof(1000, 100)} {
			if liters := impl.CatchDays(r, rain); len(liters) != 0 {
				t.Errorf("CatchDays(%v, %.60v): %.60v", r, rain, liters)
			}
		}
	}
}

func TestAreaFor(t *testing.T) {
	cases := []struct{ need, rain, percent, area int }{
		{100, 10, 80, 13}, {104, 10, 80, 13}, {105, 10, 80, 14}, {96, 10, 80, 12}, {97, 10, 80, 13}, {1, 1, 100, 1}, {2, 1, 100, 2},
		{1, 1, 1, 100}, {2, 1, 1, 200}, {10, 1, 1, 1000}, {11, 1, 1, -1}, {1, 1, 50, 2}, {1, 1, 99, 2}, {2, 1, 99, 3}, {98, 1, 99, 99}, {99, 1, 99, 100},
		{0, 10, 80, 1}, {0, 0, 0, 1}, {0, 0, 100, 1}, {0, 300, 0, 1}, {0, 300, 100, 1}, {0, 1, 1, 1},
		{1, 0, 80, -1}, {1, 0, 100, -1}, {1, 300, 0, -1}, {1, 0, 0, -1}, {1, 300, 100, 1}, {300, 300, 100, 1}, {301, 300, 100, 2},
		{1000, 1, 100, 1000}, {1001, 1, 100, -1}, {999, 1, 100, 999}, {990, 1, 99, 1000}, {991, 1, 99, -1}, {989, 1, 99, 999},
		{300000, 300, 100, 1000}, {300001, 300, 100, -1}, {299701, 300, 100, 1000}, {299700, 300, 100, 999},
		{999999, 300, 100, -1}, {1000000, 300, 100, -1}, {1000000, 0, 0, -1}, {1000000, 1, 1, -1},
	}
	for _, c := range cases {
		if area := impl.AreaFor(c.need, c.rain, c.percent); area != c.area {
			t.Errorf("AreaFor(%d, %d, %d): %d", c.need, c.rain, c.percent, area)
		}
	}
}

func TestInvalidAreaFor(t *testing.T) {
	for _, need := range []int{math.MinInt, -100, -1, 1000001, math.MaxInt} {
		for _, rain := range []int{-1, 0, 10, 300, 301} {
			for _, percent := range []int{-1, 0, 80, 100, 101} {
				if area := impl.AreaFor(need, rain, percent); area != -1 {
					t.Errorf("AreaFor(%d, %d, %d): %d", need, rain, percent, area)
				}
			}
		}
	}
	for _, need := range []int{-1, 0, 1, 100, 1000000} {
		for _, rain := range wrongRains() {
			for _, percent := range []int{math.MinInt, -1, 0, 80, 100, 101, math.MaxInt} {
				if area := impl.AreaFor(need, rain, percent); area != -1 {
					t.Errorf("AreaFor(%d, %d, %d): %d", need, rain, percent, area)
				}
			}
		}
		for _, rain := range someRains() {
			for _, percent := range []int{math.MinInt, -80, -1, 101, 102, math.MaxInt} {
				if area := impl.AreaFor(need, rain, percent); area != -1 {
					t.Errorf("AreaFor(%d, %d, %d): %d", need, rain, percent, area)
				}
			}
		}
	}
}

// TestNoSmallerAreaIsEnough holds AreaFor against Catch, at what each Area just catches and one liter more.
func TestNoSmallerAreaIsEnough(t *testing.T) {
	for _, percent := range []int{0, 1, 33, 50, 99, 100} {
		for _, rain := range someRains() {
			for _, area := range []int{1, 2, 3, 50, 99, 100, 101, 999, 1000} {
				caught := impl.Catch(roof(area, percent), rain)
				checkAreaFor(t, caught, rain, percent)
				checkAreaFor(t, caught+1, rain, percent)
			}
		}
	}
}

func checkAreaFor(t *testing.T, need int, rain int, percent int) {
	t.Helper()
	area := impl.AreaFor(need, rain, percent)
	if area == -1 {
		if impl.Catch(roof(1000, percent), rain) >= need {
			t.Errorf("AreaFor(%d, %d, %d) finds none", need, rain, percent)
		}
		return
	}
	if area < 1 || area > 1000 || impl.Catch(roof(area, percent), rain) < need {
		t.Errorf("AreaFor(%d, %d, %d) is not enough: %d", need, rain, percent, area)
	}
	if area > 1 && impl.Catch(roof(area-1, percent), rain) >= need {
		t.Errorf("AreaFor(%d, %d, %d) is not the least: %d", need, rain, percent, area)
	}
}

func TestBetterRoof(t *testing.T) {
	cases := []struct {
		a, b   impl.Roof
		better int
	}{
		{roof(50, 80), roof(40, 100), 0}, {roof(50, 80), roof(41, 100), 1}, {roof(50, 80), roof(39, 100), -1},
		{roof(50, 80), roof(50, 80), 0}, {roof(50, 81), roof(50, 80), -1}, {roof(51, 80), roof(50, 80), -1}, {roof(50, 79), roof(50, 80), 1},
		{roof(1, 0), roof(1000, 0), 0}, {roof(1, 1), roof(1000, 0), -1}, {roof(1000, 0), roof(1, 1), 1},
		{roof(1, 100), roof(100, 1), 0}, {roof(1000, 100), roof(1000, 99), -1}, {roof(999, 100), roof(1000, 100), 1}, {roof(1000, 100), roof(1000, 100), 0},
		{roof(1, 50), roof(1, 51), 1}, {roof(90, 100), roof(100, 89), -1}, {roof(1000, 1), roof(11, 100), 1},
	}
	for _, c := range cases {
		if better := impl.BetterRoof(c.a, c.b); better != c.better {
			t.Errorf("BetterRoof(%v, %v): %d", c.a, c.b, better)
		}
		if better := impl.BetterRoof(c.b, c.a); better != -c.better {
			t.Errorf("BetterRoof(%v, %v): %d", c.b, c.a, better)
		}
	}
}

func TestInvalidBetterRoof(t *testing.T) {
	for _, wrong := range invalidRoofs() {
		for _, r := range slices.Concat(validRoofs(), invalidRoofs()) {
			if better := impl.BetterRoof(wrong, r); better != 0 {
				t.Errorf("BetterRoof(%v, %v): %d", wrong, r, better)
			}
			if better := impl.BetterRoof(r, wrong); better != 0 {
				t.Errorf("BetterRoof(%v, %v): %d", r, wrong, better)
			}
		}
	}
}

// TestABetterRoofNeverCatchesLess holds BetterRoof against Catch: rounding hides small differences, but never turns them around.
func TestABetterRoofNeverCatchesLess(t *testing.T) {
	for _, a := range validRoofs() {
		for _, b := range validRoofs() {
			better := impl.BetterRoof(a, b)
			for _, rain := range someRains() {
				more := impl.Catch(a, rain) - impl.Catch(b, rain)
				if better < 0 && more < 0 || better == 0 && more != 0 || better > 0 && more > 0 {
					t.Errorf("BetterRoof(%v, %v) is %d, but with a rain of %d a catches %d more", a, b, better, rain, more)
				}
			}
			// 100 millimeters leave nothing to round, so that every difference shows.
			if more := impl.Catch(a, 100) - impl.Catch(b, 100); (more > 0) != (better < 0) || (more < 0) != (better > 0) {
				t.Errorf("BetterRoof(%v, %v) is %d, but a catches %d more", a, b, better, more)
			}
		}
	}
}

// TestMoreNeverCatchesLess is the first half of promise 3.
func TestMoreNeverCatchesLess(t *testing.T) {
	for _, r := range validRoofs() {
		for _, rain := range someRains() {
			liters := impl.Catch(r, rain)
			if r.Area < 1000 && impl.Catch(roof(r.Area+1, r.Percent), rain) < liters {
				t.Errorf("%v with more Area catches less of %d", r, rain)
			}
			if r.Percent < 100 && impl.Catch(roof(r.Area, r.Percent+1), rain) < liters {
				t.Errorf("%v with more Percent catches less of %d", r, rain)
			}
			if rain < 300 && impl.Catch(r, rain+1) < liters {
				t.Errorf("%v catches less of more than %d", r, rain)
			}
			if impl.CatchAll([]impl.Roof{r, roof(1, 0)}, rain) < impl.CatchAll([]impl.Roof{r}, rain) {
				t.Errorf("%v with one more roof catches less of %d", r, rain)
			}
		}
	}
}

// TestTwoRoofsCatchWhatBothDo is the second half of promise 3.
func TestTwoRoofsCatchWhatBothDo(t *testing.T) {
	for _, a := range validRoofs() {
		for _, b := range validRoofs() {
			for _, rain := range []int{0, 1, 3, 99, 300} {
				if liters := impl.CatchAll([]impl.Roof{a, b}, rain); liters != impl.Catch(a, rain)+impl.Catch(b, rain) {
					t.Errorf("%v and %v catch of %d: %d", a, b, rain, liters)
				}
			}
		}
	}
}

func TestManyRoofsCatchWhatAllDo(t *testing.T) {
	random := rand.New(rand.NewSource(3))
	for range 500 {
		roofs := make([]impl.Roof, random.Intn(21))
		rain := random.Intn(301)
		want := 0
		for i := range roofs {
			roofs[i] = roof(1+random.Intn(1000), random.Intn(101))
			want += plainCatch(roofs[i], rain)
		}
		if liters := impl.CatchAll(roofs, rain); liters != want {
			t.Errorf("%v catch of %d: %d", roofs, rain, liters)
		}
		part := random.Intn(len(roofs) + 1)
		if both := impl.CatchAll(roofs[:part], rain) + impl.CatchAll(roofs[part:], rain); both != want {
			t.Errorf("both parts of %v catch of %d: %d", roofs, rain, both)
		}
	}
}

func TestRoofsAreNotChanged(t *testing.T) {
	days := []int{0, 3, 10, 77, -77}
	daysBefore := slices.Clone(days)
	roofs := []impl.Roof{roof(50, 80), roof(1, 50), roof(7, 7), {}}
	roofsBefore := slices.Clone(roofs)
	if liters := impl.CatchAll(roofs[:2], 3); liters != 121 {
		t.Errorf("two roofs catch: %d", liters)
	}
	liters := impl.CatchDays(roofs[0], days[:3])
	for i := range liters {
		liters[i] = -1
	}
	_ = append(liters, -1)
	if !slices.Equal(days, daysBefore) || !slices.Equal(roofs, roofsBefore) {
		t.Errorf("the arguments have become %v and %v", days, roofs)
	}
	if again := impl.CatchDays(roofs[0], days[:3]); !slices.Equal(again, []int{0, 120, 400}) {
		t.Errorf("the liters of a second call: %v", again)
	}
}
