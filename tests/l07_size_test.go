package tests

import (
	"math"
	"math/rand"
	"slices"
	"sync"
	"testing"

	"loop.example/g03307/impl"
)

// withNeed, withStart and roomOf are the year with another Need, Start or Room. roomOf lowers Start to Room.
func withNeed(y impl.Year, need int) impl.Year {
	y.Need = need
	return y
}

func withStart(y impl.Year, start int) impl.Year {
	y.Start = start
	return y
}

func roomOf(y impl.Year, room int) impl.Year {
	y.Room, y.Start = room, min(y.Start, room)
	return y
}

func sameYear(a impl.Year, b impl.Year) bool {
	return a.Room == b.Room && a.Start == b.Start && a.Need == b.Need && slices.Equal(a.Catch, b.Catch)
}

// lasts reports whether a valid year has Need on each day.
func lasts(y impl.Year) bool {
	level := y.Start
	for _, liters := range y.Catch {
		level = min(level+liters, y.Room) - y.Need
		if level < 0 {
			return false
		}
	}
	return true
}

// yearSize is what the functions of the chapter return for a year.
type yearSize struct {
	enough                     bool
	room, need, start, average int
}

func sizeOf(y impl.Year) yearSize {
	return yearSize{impl.IsEnough(y), impl.LeastRoom(y), impl.MostNeed(y), impl.LeastStart(y), impl.AverageCatch(y)}
}

// sizeCase is a year, and what the functions of the chapter must return for it.
type sizeCase struct {
	name string
	y    impl.Year
	want yearSize
}

func sizeCases() []sizeCase {
	return []sizeCase{
		{"too little Room", year(20, 10, 8, 0, 30, 0, 0), yearSize{false, 24, 6, -1, 7}},
		{"enough Room", year(30, 10, 8, 0, 30, 0, 0), yearSize{true, 24, 10, 8, 7}},
		{"just enough Room", year(24, 10, 8, 0, 30, 0, 0), yearSize{true, 24, 8, 8, 7}},
		{"a liter less Room than is enough", year(23, 10, 8, 0, 30, 0, 0), yearSize{false, 24, 7, -1, 7}},
		{"just enough Start", year(24, 8, 8, 0, 30, 0, 0), yearSize{true, 24, 8, 8, 7}},
		{"a liter less Start than is enough", year(24, 7, 8, 0, 30, 0, 0), yearSize{false, -1, 7, 8, 7}},
		{"no need", year(20, 5, 0, 0, 30, 0, 0), yearSize{true, 1, 5, 0, 7}},
		{"no need and no rain", year(20, 5, 0, 0, 0, 0), yearSize{true, 1, 1, 0, 0}},
		{"no need and no water", year(20, 0, 0, 0, 0, 0), yearSize{true, 1, 0, 0, 0}},
		{"a need and no water", year(20, 0, 1, 0, 0, 0), yearSize{false, -1, 0, 3, 0}},
		{"no rain, and a need that just the Start covers", year(20, 20, 5, 0, 0, 0, 0), yearSize{true, 20, 5, 20, 0}},
		{"no rain, and a need of one liter more", year(20, 20, 6, 0, 0, 0, 0), yearSize{false, -1, 5, -1, 0}},
		{"no rain, and a Start of one liter less", year(20, 19, 5, 0, 0, 0, 0), yearSize{false, -1, 4, 20, 0}},
		{"no rain, and a Start of one liter more", year(21, 21, 5, 0, 0, 0, 0), yearSize{true, 20, 5, 20, 0}},
		{"a day without rain, and a need that just the Start covers", year(20, 8, 8, 0), yearSize{true, 8, 8, 8, 0}},
		{"a day without rain, and a need of one liter more", year(20, 8, 9, 0), yearSize{false, -1, 8, 9, 0}},
		{"a full cistern that may be smaller", year(100, 100, 3, 7, 7), yearSize{true, 3, 53, 0, 7}},
		{"a Start that is greater than what must last", year(100, 50, 10, 0, 0, 0), yearSize{true, 30, 16, 30, 0}},
		{"a Start that is greater than the first need", year(100, 50, 10, 0, 10, 20), yearSize{true, 10, 26, 10, 10}},
		{"a need of just Room", year(20, 0, 20, 20, 21, 29), yearSize{true, 20, 20, 0, 23}},
		{"a need of just Room, and nothing there", year(20, 0, 20, 0), yearSize{false, -1, 0, 20, 0}},
		{"a need that is a liter greater than Room", year(20, 20, 21, 30), yearSize{false, 21, 20, -1, 30}},
		{"a least Room of 1", year(20, 0, 1, 1, 1, 1), yearSize{true, 1, 1, 0, 1}},
		{"a least Room of 1, and the first day without rain", year(20, 20, 1, 0, 1, 2), yearSize{true, 1, 7, 1, 1}},
		{"a least Room of 2", year(20, 20, 1, 0, 0, 2), yearSize{true, 2, 7, 2, 0}},
		{"the least cistern", year(1, 1, 1, 0), yearSize{true, 1, 1, 1, 0}},
		{"the least cistern, and nothing there", year(1, 0, 1, 0), yearSize{false, -1, 0, 1, 0}},
		{"the least cistern, and a need of 2", year(1, 1, 2, 300000), yearSize{false, 2, 1, -1, 300000}},
		{"a sum of Catch that is a multiple of the days", year(30, 0, 0, 0, 28, 0, 0), yearSize{true, 1, 0, 0, 7}},
		{"a sum of Catch of a liter less", year(30, 0, 0, 27, 0, 0, 0), yearSize{true, 1, 6, 0, 6}},
		{"a sum of Catch of a liter more", year(30, 0, 0, 0, 0, 0, 29), yearSize{true, 1, 0, 0, 7}},
		{"a sum of Catch that is less than the days", year(30, 0, 0, 1, 1, 0), yearSize{true, 1, 0, 0, 0}},
		{"the greatest need", year(1000000, 700000, 1000000, 300000), yearSize{true, -1, 1000000, 700000, 300000}},
		{"the greatest need, and a liter less there", year(1000000, 699999, 1000000, 300000), yearSize{false, -1, 999999, 700000, 300000}},
		{"the greatest need, and a liter less Room", year(999999, 999999, 1000000, 300000), yearSize{false, -1, 999999, -1, 300000}},
	}
}

// largeSizeCases are years with a least Room near to the greatest one that is searched, and years with more Room.
func largeSizeCases() []sizeCase {
	return []sizeCase{
		{"Room 100000 is enough", year(5, 0, 50000, 100000, 0), yearSize{false, 100000, 2, -1, 50000}},
		{"Room 100000 is there, and enough", year(100000, 0, 50000, 100000, 0), yearSize{true, 100000, 50000, 0, 50000}},
		{"Room 99999 is there, and a liter less than enough", year(99999, 0, 50000, 100000, 0), yearSize{false, 100000, 49999, -1, 50000}},
		{"Room 99999 is enough", year(5, 0, 33333, 100000, 0, 0), yearSize{false, 99999, 1, -1, 33333}},
		{"no Room up to 100000 is enough", year(5, 0, 33334, 300000, 0, 0), yearSize{false, -1, 1, -1, 100000}},
		{"Room 100000 is enough for a full cistern", year(1000000, 1000000, 100000, 0), yearSize{true, 100000, 1000000, 100000, 0}},
		{"Room 99999 is enough for a full cistern", year(1000000, 1000000, 99999, 0), yearSize{true, 99999, 1000000, 99999, 0}},
		{"no Room up to 100000 is enough for a full cistern", year(1000000, 1000000, 100001, 0), yearSize{true, -1, 1000000, 100001, 0}},
		{"only a Room above 100000 is enough", year(100001, 100001, 100001, 0), yearSize{true, -1, 100001, 100001, 0}},
		{"only a Room above 100000 would be enough", year(100000, 100000, 100001, 1), yearSize{false, -1, 100000, -1, 1}},
		{"a Room above 100000, and Room 100000 is enough", year(100001, 100001, 100000, 0), yearSize{true, 100000, 100001, 100000, 0}},
		{"a Room above 100000, and a little is enough", year(300000, 0, 7, 300000, 0), yearSize{true, 14, 150000, 0, 150000}},
		{"a Room above 100000, and all of it is just enough", year(300000, 0, 150000, 300000, 0), yearSize{true, -1, 150000, 0, 150000}},
		{"a Room above 100000, and no need", year(1000000, 1000000, 0, 0), yearSize{true, 1, 1000000, 0, 0}},
		{"a Room above 100000, and too little water", year(1000000, 7, 8, 0), yearSize{false, -1, 7, 8, 0}},
	}
}

// longSizeCases are years of the most days.
func longSizeCases() []sizeCase {
	dry, wet := sameRain(400, 0), sameRain(400, 300000)
	almost := slices.Clone(dry)
	almost[399] = 399
	return []sizeCase{
		{"no rain, and just enough for all days", year(1000000, 1000000, 2500, dry...), yearSize{true, -1, 2500, 1000000, 0}},
		{"no rain, and a liter a day more", year(1000000, 1000000, 2501, dry...), yearSize{false, -1, 2500, -1, 0}},
		{"no rain, and a liter less there", year(1000000, 999999, 2500, dry...), yearSize{false, -1, 2499, 1000000, 0}},
		{"no rain, and Room 100000 is enough", year(1000000, 1000000, 250, dry...), yearSize{true, 100000, 2500, 100000, 0}},
		{"no rain, and no Room up to 100000 is enough", year(1000000, 1000000, 251, dry...), yearSize{true, -1, 2500, 100400, 0}},
		{"no rain, nothing there, and the least need", year(1000000, 0, 1, dry...), yearSize{false, -1, 0, 400, 0}},
		{"the most Catch and a need of just this", year(1000000, 0, 300000, wet...), yearSize{true, -1, 300000, 0, 300000}},
		{"the most Catch and a full cistern", year(1000000, 1000000, 300001, wet...), yearSize{true, -1, 301750, 400, 300000}},
		{"the most Catch, and Room 100000 is enough", year(1000000, 0, 100000, wet...), yearSize{true, 100000, 300000, 0, 300000}},
		{"the most Catch into the least cistern", year(1, 0, 1000000, wet...), yearSize{false, -1, 1, -1, 300000}},
		{"rain on the first day only", withCatch(400, 0, 300000), yearSize{false, 1200, 2, -1, 750}},
		{"rain on the last day only", withCatch(400, 399, 300000), yearSize{false, -1, 1, -1, 750}},
		{"a liter a day", year(30, 0, 1, sameRain(400, 1)...), yearSize{true, 1, 1, 0, 1}},
		{"a sum of Catch of a liter less than the days", year(30, 30, 0, almost...), yearSize{true, 1, 0, 0, 0}},
	}
}

func allSizeCases() []sizeCase {
	return slices.Concat(sizeCases(), largeSizeCases(), longSizeCases())
}

// sizeYears are valid years of all kinds, many of them with just the Need for which there is enough.
func sizeYears() []impl.Year {
	years := slices.Concat(validYears(), smallYears())
	for _, c := range allSizeCases() {
		years = append(years, c.y)
	}
	random := rand.New(rand.NewSource(12))
	for range 300 {
		y := someYear(random, 40, 1000, 100, 0)
		years = append(years, withNeed(y, min(y.Room, impl.AverageCatch(y))), withNeed(y, impl.MostNeed(y)))
		large := someYear(random, 400, 1000000, 200000, 0)
		years = append(years, withNeed(large, random.Intn(3000)), withNeed(large, impl.MostNeed(large)), withNeed(large, impl.MostNeed(large)/2))
	}
	return years
}

func TestSizes(t *testing.T) {
	for _, c := range allSizeCases() {
		if got := sizeOf(c.y); got != c.want {
			t.Errorf("%s: %v instead of %v", c.name, got, c.want)
		}
	}
}

func TestSizesOfInvalidYears(t *testing.T) {
	for _, y := range invalidYears() {
		if got := sizeOf(y); got != (yearSize{false, -1, -1, -1, -1}) {
			t.Errorf("%v, which is not valid: %v", y, got)
		}
	}
}

// TestOtherNumbersMustBeValid gives a year one wrong number, also the one that the function looks for.
func TestOtherNumbersMustBeValid(t *testing.T) {
	right := year(30, 10, 8, 0, 30, 0, 0)
	for _, y := range []impl.Year{
		{Room: 0, Start: 0, Catch: right.Catch, Need: 8}, {Room: 1000001, Start: 10, Catch: right.Catch, Need: 8}, {Room: -1, Start: 10, Catch: right.Catch, Need: 8},
		withStart(right, -1), withStart(right, 31), withStart(right, math.MaxInt), withNeed(right, -1), withNeed(right, 1000001), withNeed(right, math.MinInt),
		{Room: 30, Start: 10, Need: 8}, {Room: 30, Start: 10, Catch: sameRain(401, 8), Need: 8},
		{Room: 30, Start: 10, Catch: []int{0, 30, -1}, Need: 8}, {Room: 30, Start: 10, Catch: []int{300001, 30, 0}, Need: 8},
	} {
		if got := sizeOf(y); got != (yearSize{false, -1, -1, -1, -1}) {
			t.Errorf("%v, which is not valid: %v", y, got)
		}
	}
}

func TestIsEnough(t *testing.T) {
	for _, y := range sizeYears() {
		if got := impl.IsEnough(y); got != lasts(y) || got != (len(impl.ShortDays(y)) == 0) {
			t.Errorf("IsEnough(%v): %v", y, got)
		}
	}
}

// TestLeastRoomIsEnough is promise 7: the least room is enough, and one liter less is not.
func TestLeastRoomIsEnough(t *testing.T) {
	for _, y := range sizeYears() {
		room := impl.LeastRoom(y)
		if room == -1 {
			if lasts(roomOf(y, 100000)) {
				t.Errorf("%v has no least Room, but 100000 is enough", y)
			}
			continue
		}
		if room < 1 || room > 100000 || !lasts(roomOf(y, room)) || !impl.IsEnough(impl.WithRoom(y, room)) {
			t.Fatalf("%v has the least Room %d, which is not enough", y, room)
		}
		if room > 1 && (lasts(roomOf(y, room-1)) || impl.IsEnough(impl.WithRoom(y, room-1))) {
			t.Errorf("%v has the least Room %d, but one liter less is enough", y, room)
		}
		if !impl.IsEnough(impl.WithRoom(y, room+1)) {
			t.Errorf("%v has the least Room %d, but one liter more is not enough", y, room)
		}
	}
}

func TestMostNeedIsEnough(t *testing.T) {
	for _, y := range sizeYears() {
		need := impl.MostNeed(y)
		if need < 0 || need > y.Room || !lasts(withNeed(y, need)) {
			t.Errorf("%v has the greatest Need %d, for which there is not enough", y, need)
		}
		if need < 1000000 && lasts(withNeed(y, need+1)) {
			t.Errorf("%v has the greatest Need %d, but one liter more is there", y, need)
		}
		if impl.IsEnough(y) != (y.Need <= need) {
			t.Errorf("%v has the greatest Need %d", y, need)
		}
	}
}

func TestLeastStartIsEnough(t *testing.T) {
	for _, y := range sizeYears() {
		start := impl.LeastStart(y)
		if start == -1 {
			if lasts(withStart(y, y.Room)) {
				t.Errorf("%v has no least Start, but Room is enough", y)
			}
			continue
		}
		if start < 0 || start > y.Room || !lasts(withStart(y, start)) {
			t.Errorf("%v has the least Start %d, which is not enough", y, start)
		}
		if start > 0 && lasts(withStart(y, start-1)) {
			t.Errorf("%v has the least Start %d, but one liter less is enough", y, start)
		}
		if impl.IsEnough(y) != (y.Start >= start) {
			t.Errorf("%v has the least Start %d", y, start)
		}
	}
}

// firstThatLasts tries one number after the other; -1 if there is none.
func firstThatLasts(low int, high int, yearFor func(n int) impl.Year) int {
	for n := low; n <= high; n++ {
		if lasts(yearFor(n)) {
			return n
		}
	}
	return -1
}

// TestSizesByTryingAll holds each function against a search that leaves out no number.
func TestSizesByTryingAll(t *testing.T) {
	years := smallYears()
	random := rand.New(rand.NewSource(13))
	for range 500 {
		years = append(years, someYear(random, 20, 50, 30, 25), someYear(random, 20, 50, 10, 4))
	}
	for _, y := range years {
		// More Room than all water needs is never used.
		room := firstThatLasts(1, y.Start+sumOf(y.Catch)+1, func(n int) impl.Year { return roomOf(y, n) })
		start := firstThatLasts(0, y.Room, func(n int) impl.Year { return withStart(y, n) })
		need := y.Room - firstThatLasts(0, y.Room, func(n int) impl.Year { return withNeed(y, y.Room-n) })
		want := yearSize{lasts(y), room, need, start, sumOf(y.Catch) / len(y.Catch)}
		if got := sizeOf(y); got != want {
			t.Errorf("%v: %v instead of %v", y, got, want)
		}
	}
}

// TestTheNumberThatIsSearched gives years that differ only in the number that is searched, and must have the same least or greatest one.
func TestTheNumberThatIsSearched(t *testing.T) {
	y := year(30, 10, 8, 0, 30, 0, 0)
	for _, need := range []int{0, 1, 10, 11, 30, 31, 1000000} {
		if got := impl.MostNeed(withNeed(y, need)); got != 10 {
			t.Errorf("with a Need of %d, the greatest Need is %d", need, got)
		}
	}
	for start := range 31 {
		if got := impl.LeastStart(withStart(y, start)); got != 8 {
			t.Errorf("with a Start of %d, the least Start is %d", start, got)
		}
	}
	for _, room := range []int{10, 23, 24, 25, 99999, 100000, 100001, 1000000} {
		if got := impl.LeastRoom(roomOf(y, room)); got != 24 {
			t.Errorf("with a Room of %d, the least Room is %d", room, got)
		}
	}
}

func TestAverageCatch(t *testing.T) {
	for _, y := range sizeYears() {
		average, sum, days := impl.AverageCatch(y), sumOf(y.Catch), len(y.Catch)
		if average*days > sum || (average+1)*days <= sum {
			t.Errorf("%v has %d liters in %d days, and on average %d", y, sum, days, average)
		}
	}
	for days := 1; days <= 400; days++ {
		for _, c := range []struct{ last, average int }{{7, 7}, {7 + days, 8}, {7 + days - 1, 7}, {6, 6}} {
			y := year(20, 5, 8, sameRain(days, 7)...)
			y.Catch[days-1] = c.last
			if got := impl.AverageCatch(y); got != c.average {
				t.Errorf("%d days of 7 liters and %d at last have on average %d", days-1, c.last, got)
			}
		}
	}
}

func TestWithRoom(t *testing.T) {
	half, full, empty := year(20, 10, 8, 0, 30, 0, 0), year(1000000, 1000000, 0, 7), year(1, 0, 1000000, 300000)
	cases := []struct {
		y                         impl.Year
		room, wantRoom, wantStart int
	}{
		{half, 6, 6, 6}, {half, 9, 9, 9}, {half, 10, 10, 10}, {half, 11, 11, 10}, {half, 20, 20, 10}, {half, 21, 21, 10},
		{half, 1, 1, 1}, {half, 2, 2, 2}, {half, 100001, 100001, 10}, {half, 999999, 999999, 10}, {half, 1000000, 1000000, 10},
		{half, 0, 20, 10}, {half, -1, 20, 10}, {half, 1000001, 20, 10}, {half, 1000002, 20, 10}, {half, math.MinInt, 20, 10}, {half, math.MaxInt, 20, 10},
		{full, 1, 1, 1}, {full, 999999, 999999, 999999}, {full, 1000000, 1000000, 1000000}, {full, 0, 1000000, 1000000}, {full, 1000001, 1000000, 1000000},
		{empty, 1, 1, 0}, {empty, 1000000, 1000000, 0}, {empty, 0, 1, 0}, {empty, 1000001, 1, 0},
	}
	for _, c := range cases {
		want := impl.Year{Room: c.wantRoom, Start: c.wantStart, Catch: c.y.Catch, Need: c.y.Need}
		if got := impl.WithRoom(c.y, c.room); !sameYear(got, want) || !impl.YearOk(got) {
			t.Errorf("WithRoom(%v, %d): %v", c.y, c.room, got)
		}
	}
}

func someRooms() []int {
	return []int{math.MinInt, -1, 0, 1, 2, 3, 5, 20, 100, 99999, 100000, 100001, 999999, 1000000, 1000001, math.MaxInt}
}

func TestWithRoomOfAllYears(t *testing.T) {
	for _, y := range sizeYears() {
		for _, room := range someRooms() {
			want := y
			if room >= 1 && room <= 1000000 {
				want = roomOf(y, room)
			}
			if got := impl.WithRoom(y, room); !sameYear(got, want) {
				t.Errorf("WithRoom(%v, %d): %v", y, room, got)
			}
		}
	}
	for _, y := range invalidYears() {
		for _, room := range someRooms() {
			if got := impl.WithRoom(y, room); !sameYear(got, y) {
				t.Errorf("WithRoom(%v, %d), which is not valid: %v", y, room, got)
			}
		}
	}
}

// TestWithRoomGivesNewMemory writes into the Catch of each result, also where the year is unchanged.
func TestWithRoomGivesNewMemory(t *testing.T) {
	cases := []struct {
		name string
		y    impl.Year
		room int
	}{
		{"another Room", year(20, 10, 8, 0, 30, 0, 0), 6},
		{"the same Room", year(20, 10, 8, 0, 30, 0, 0), 20},
		{"a Room of 0", year(20, 10, 8, 0, 30, 0, 0), 0},
		{"a Room that is too large", year(20, 10, 8, 0, 30, 0, 0), 1000001},
		{"a year of one day", year(20, 10, 8, 7), 6},
		{"a year of 400 days", year(20, 10, 8, sameRain(400, 7)...), 6},
		{"a year of too many days", year(20, 10, 8, sameRain(401, 7)...), 6},
		{"a Catch that is not valid", year(20, 10, 8, 0, -1), 6},
		{"a Need that is not valid", year(20, 10, -1, 0, 30), 6},
		{"a Start that is not valid", year(20, 21, 8, 0, 30), 6},
		{"a Room that is not valid", year(0, 0, 8, 0, 30), 6},
		{"a year and a Room that are not valid", year(0, 0, 8, 0, 30), 0},
	}
	for _, c := range cases {
		long := append(slices.Clone(c.y.Catch), 77, -77)
		before := slices.Clone(long)
		c.y.Catch = long[:len(c.y.Catch)]
		got := impl.WithRoom(c.y, c.room)
		for day := range got.Catch {
			got.Catch[day] = -99
		}
		_ = append(got.Catch, -99)
		if !slices.Equal(long, before) {
			t.Errorf("%s: the catches have become %v", c.name, long)
		}
		again := impl.WithRoom(c.y, c.room)
		long[0] = -98
		if !slices.Equal(again.Catch, before[:len(c.y.Catch)]) {
			t.Errorf("%s: the result has become %v", c.name, again)
		}
	}
}

// TestSizedYearIsNotChanged calls each function with a Catch that is a part of a longer list.
func TestSizedYearIsNotChanged(t *testing.T) {
	catch := []int{0, 30, 0, 0, 77, -77}
	before := slices.Clone(catch)
	y := year(20, 10, 8, catch[:4]...)
	for range 3 {
		if got := sizeOf(y); got != (yearSize{false, 24, 6, -1, 7}) {
			t.Errorf("the year has become %v", got)
		}
	}
	if !slices.Equal(catch, before) || !sameYear(y, year(20, 10, 8, 0, 30, 0, 0)) {
		t.Errorf("the catches have become %v in %v", catch, y)
	}
}

// TestSizesAtTheSameTime calls the functions from many goroutines: no search gets numbers of another one.
func TestSizesAtTheSameTime(t *testing.T) {
	var all sync.WaitGroup
	for _, c := range allSizeCases() {
		all.Go(func() {
			for range 5 {
				if got := sizeOf(c.y); got != c.want {
					t.Errorf("%s: %v instead of %v", c.name, got, c.want)
				}
			}
		})
	}
	all.Wait()
}

// TestMoreNeverNeedsMore adds Room, Start, Catch and Need: only more Need makes a year harder.
func TestMoreNeverNeedsMore(t *testing.T) {
	random := rand.New(rand.NewSource(14))
	for range 300 {
		y := someYear(random, 30, 60, 30, 10)
		if more := impl.WithRoom(y, y.Room+1+random.Intn(20)); impl.MostNeed(more) < impl.MostNeed(y) {
			t.Errorf("%v allows less Need than %v", more, y)
		}
		if more := withStart(y, y.Room); impl.MostNeed(more) < impl.MostNeed(y) {
			t.Errorf("%v allows less Need than %v", more, y)
		}
		wet := y
		wet.Catch = slices.Clone(y.Catch)
		wet.Catch[random.Intn(len(wet.Catch))] += 1 + random.Intn(20)
		if impl.MostNeed(wet) < impl.MostNeed(y) || impl.AverageCatch(wet) < impl.AverageCatch(y) {
			t.Errorf("%v allows less Need than %v, or has less Catch", wet, y)
		}
		thirsty := withNeed(y, y.Need+1)
		if room := impl.LeastRoom(thirsty); room != -1 && room < impl.LeastRoom(y) {
			t.Errorf("%v can have less Room than %v", thirsty, y)
		}
		if start := impl.LeastStart(thirsty); start != -1 && start < impl.LeastStart(y) {
			t.Errorf("%v can have less Start than %v", thirsty, y)
		}
	}
}
