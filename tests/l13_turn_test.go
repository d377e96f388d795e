package tests

import (
	"math"
	"math/rand"
	"slices"
	"sync"
	"testing"

	"loop.example/g03307/impl"
)

func turn(owner int, from int, to int) impl.Turn {
	return impl.Turn{Owner: owner, From: from, To: to}
}

func turns(list ...impl.Turn) []impl.Turn {
	return list
}

// threeTurns have free hours ahead of all turns, between two and behind them, and two touch.
func threeTurns() []impl.Turn {
	return turns(turn(3, 5, 10), turn(8, 10, 20), turn(5, 30, 40))
}

// wholeWeek leaves no hour free, and one Owner has its ends.
func wholeWeek() []impl.Turn {
	return turns(turn(7, 0, 24), turn(9, 24, 25), turn(2, 25, 100), turn(9, 100, 160), turn(7, 160, 168))
}

// bothSides have an Owner with two turns that touch, and a third one ahead of the same Owner's first hour of the next week.
func bothSides() []impl.Turn {
	return turns(turn(4, 0, 3), turn(4, 3, 6), turn(6, 6, 7), turn(4, 150, 168))
}

// equalTurns are turns of the Owners 1, 2 and so on, with so many hours and so many free ones behind each.
func equalTurns(number int, hours int, free int) []impl.Turn {
	var list []impl.Turn
	for i := range number {
		from := i * (hours + free)
		list = append(list, turn(i+1, from, from+hours))
	}
	return list
}

func validTurns() [][]impl.Turn {
	return [][]impl.Turn{
		nil, {}, threeTurns(), wholeWeek(), bothSides(), turns(turn(1, 0, 168)), turns(turn(999, 0, 168)), turns(turn(1, 0, 1)), turns(turn(999, 167, 168)), turns(turn(500, 0, 167)), turns(turn(500, 1, 168)), turns(turn(500, 83, 84)),
		turns(turn(3, 0, 10), turn(5, 12, 20)), turns(turn(3, 0, 10), turn(5, 10, 20)), turns(turn(3, 0, 10), turn(3, 10, 20)), turns(turn(3, 0, 10), turn(3, 11, 20)), turns(turn(5, 0, 10), turn(3, 167, 168)), turns(turn(5, 0, 1), turn(3, 1, 168)), turns(turn(5, 0, 167), turn(5, 167, 168)),
		turns(turn(2, 0, 5), turn(1, 5, 9), turn(2, 9, 30), turn(1, 40, 41), turn(2, 41, 42)), turns(turn(999, 0, 84), turn(1, 84, 168)),
		equalTurns(1, 1, 0), equalTurns(2, 84, 0), equalTurns(29, 2, 3), equalTurns(30, 1, 0), equalTurns(30, 5, 0), equalTurns(30, 1, 4), equalTurns(30, 3, 2),
		append(equalTurns(29, 5, 0), turn(999, 145, 168)), append(equalTurns(29, 1, 4), turn(1, 167, 168)),
	}
}

// withTurn is the list with another turn at one place.
func withTurn(list []impl.Turn, i int, t impl.Turn) []impl.Turn {
	list = slices.Clone(list)
	list[i] = t
	return list
}

// wrongTurns cannot stand in any list.
func wrongTurns() []impl.Turn {
	list := turns(
		impl.Turn{}, turn(1, 0, 0), turn(1, 5, 5), turn(1, 168, 168), turn(1, 6, 5), turn(1, 167, 0), turn(1, 168, 1), turn(1, 1, 0), turn(1, 20, 10),
		turn(1, -1, 0), turn(1, -1, 1), turn(1, -1, 168), turn(1, -168, 0), turn(1, -2, -1), turn(1, -10, -5), turn(1, 0, -1), turn(1, 0, 169), turn(1, 167, 169), turn(1, 168, 169), turn(1, 169, 169), turn(1, 169, 170), turn(1, 0, 336), turn(1, 160, 336), turn(1, 5, 1000000),
		turn(1, math.MinInt, 1), turn(1, math.MinInt, 168), turn(1, math.MinInt, math.MinInt), turn(1, math.MinInt, math.MaxInt), turn(1, math.MinInt, math.MinInt+1), turn(1, math.MinInt+1, math.MinInt), turn(1, math.MaxInt, 168), turn(1, math.MaxInt, math.MaxInt), turn(1, math.MaxInt, math.MinInt), turn(1, math.MaxInt-1, math.MaxInt), turn(1, math.MaxInt, math.MinInt+1),
		turn(1, 0, math.MaxInt), turn(1, 0, math.MinInt), turn(1, 5, math.MaxInt), turn(1, 5, math.MinInt), turn(1, 0, math.MinInt+1), turn(1, 167, math.MaxInt-1), turn(1, -1, math.MinInt), turn(1, -1, math.MaxInt),
	)
	for _, owner := range wrongOwners() {
		list = append(list, turn(owner, 0, 168), turn(owner, 0, 1), turn(owner, 50, 51), turn(owner, 167, 168))
	}
	return list
}

func invalidTurns() [][]impl.Turn {
	lists := [][]impl.Turn{
		equalTurns(31, 1, 0), equalTurns(31, 5, 0), equalTurns(31, 1, 4), equalTurns(33, 5, 0), equalTurns(168, 1, 0), equalTurns(400, 1, 0), make([]impl.Turn, 31),
		// A turn begins before the end of the one before it, or lies before it.
		turns(turn(3, 0, 10), turn(5, 9, 20)), turns(turn(3, 0, 10), turn(5, 0, 20)), turns(turn(3, 0, 10), turn(5, 0, 10)), turns(turn(3, 0, 10), turn(3, 0, 10)), turns(turn(3, 0, 10), turn(5, 3, 6)), turns(turn(3, 0, 10), turn(3, 9, 11)), turns(turn(3, 10, 20), turn(5, 0, 10)), turns(turn(3, 10, 20), turn(5, 2, 8)), turns(turn(3, 10, 20), turn(5, 9, 11)), turns(turn(3, 10, 20), turn(5, 5, 25)),
		turns(turn(3, 0, 168), turn(5, 167, 168)), turns(turn(3, 0, 168), turn(5, 0, 1)), turns(turn(3, 0, 168), turn(5, 0, 168)), turns(turn(3, 167, 168), turn(5, 0, 1)), turns(turn(3, 0, 1), turn(3, 0, 1)), turns(turn(3, 0, 168), turn(5, 168, 169)),
		// The third turn lies before the second one, but behind the first one.
		turns(turn(3, 0, 10), turn(5, 20, 30), turn(7, 10, 20)), turns(turn(3, 0, 10), turn(5, 20, 30), turn(7, 12, 15)), turns(turn(3, 0, 10), turn(5, 20, 30), turn(7, 29, 35)), turns(turn(3, 20, 30), turn(5, 0, 10), turn(7, 40, 50)), turns(turn(3, 0, 50), turn(5, 20, 30), turn(7, 50, 60)), turns(turn(3, 0, 10), turn(5, 20, 30), turn(7, 0, 10)),
	}
	for _, good := range [][]impl.Turn{turns(turn(1, 0, 168)), threeTurns(), bothSides(), equalTurns(30, 5, 0)} {
		lists = append(lists, append(slices.Clone(good), good[0]))
		for _, i := range []int{0, len(good) / 2, len(good) - 1} {
			for _, wrong := range wrongTurns() {
				lists = append(lists, withTurn(good, i, wrong))
			}
			for _, owner := range wrongOwners() {
				lists = append(lists, withTurn(good, i, turn(owner, good[i].From, good[i].To)))
			}
		}
	}
	for _, wrong := range wrongTurns() {
		lists = append(lists, turns(wrong))
	}
	return lists
}

// someTurns have so many turns at most, and few Owners or many.
func someTurns(random *rand.Rand, most int, owners int) []impl.Turn {
	var list []impl.Turn
	ends := random.Perm(169)[:2*most]
	slices.Sort(ends)
	for i := 0; i < len(ends); i += 2 {
		t := turn(1+random.Intn(owners), ends[i], ends[i+1])
		if random.Intn(4) == 0 && len(list) > 0 { // it touches the one before it
			t.From = list[len(list)-1].To
		}
		list = append(list, t)
	}
	return list
}

// manyTurns are all valid lists above, and many more.
func manyTurns(random *rand.Rand) [][]impl.Turn {
	lists := validTurns()
	for most := 1; most <= 30; most++ {
		for _, owners := range []int{1, 2, 3, 10, 999} {
			lists = append(lists, someTurns(random, most, owners))
		}
	}
	return lists
}

// plainTurnsOk holds each turn against all others.
func plainTurnsOk(list []impl.Turn) bool {
	if len(list) > 30 {
		return false
	}
	for i, t := range list {
		if t.Owner < 1 || t.Owner > 999 || t.From < 0 || t.From >= t.To || t.To > 168 {
			return false
		}
		for _, later := range list[i+1:] {
			if later.From < t.To {
				return false
			}
		}
	}
	return true
}

// plainWeek has the Owner of each hour of the week, 0 for nobody, and fails if an hour has two.
func plainWeek(t *testing.T, list []impl.Turn) []int {
	t.Helper()
	week := make([]int, 168)
	for _, one := range list {
		for hour := one.From; hour < one.To; hour++ {
			if week[hour] != 0 {
				t.Errorf("%v: hour %d has two owners", list, hour)
			}
			week[hour] = one.Owner
		}
	}
	return week
}

// hoursIn counts the hours of an owner in a week.
func hoursIn(week []int, owner int) int {
	hours := 0
	for _, at := range week {
		if at == owner {
			hours++
		}
	}
	return hours
}

// plainNext goes from hour to hour, and begins the week anew behind its last hour.
func plainNext(week []int, owner int, hour int) int {
	for wait := range 168 {
		if week[hour] == owner {
			return wait
		}
		hour++
		if hour == 168 {
			hour = 0
		}
	}
	return -1
}

// someHours have each hour of the week and hours of other weeks, also of the first and the last one that may be asked for.
func someHours() []int {
	var hours []int
	for hour := -400; hour <= 600; hour++ {
		hours = append(hours, hour)
	}
	return append(hours, -1000000, -999999, -999937, -999936, -999935, -16800, 16799, 16800, 16801, 999935, 999936, 999937, 999999, 1000000)
}

func wrongHours() []int {
	return []int{math.MinInt, math.MinInt + 1, math.MinInt + 168, -1 << 40, -2000000, -1000168, -1000002, -1000001, 1000001, 1000002, 1000168, 2000000, 1 << 40, math.MaxInt - 168, math.MaxInt - 1, math.MaxInt}
}

// plainHour counts on or back week by week.
func plainHour(hour int) int {
	for hour < 0 {
		hour += 168
	}
	for hour >= 168 {
		hour -= 168
	}
	return hour
}

// ownersIn are all Owners, and some numbers of owners without a turn.
func ownersIn(list []impl.Turn) []int {
	owners := []int{1, 2, 3, 500, 998, 999, 1000}
	for _, t := range list {
		owners = append(owners, t.Owner)
	}
	slices.Sort(owners)
	return slices.Compact(owners)
}

func TestTurnsOk(t *testing.T) {
	for _, list := range manyTurns(rand.New(rand.NewSource(31))) {
		if !impl.TurnsOk(list) {
			t.Errorf("%v are not valid", list)
		}
	}
	for _, list := range invalidTurns() {
		if impl.TurnsOk(list) {
			t.Errorf("%v are valid", list)
		}
	}
}

func TestTurnLimits(t *testing.T) {
	cases := []struct {
		list []impl.Turn
		ok   bool
	}{
		{nil, true}, {equalTurns(30, 1, 0), true}, {equalTurns(31, 1, 0), false}, {equalTurns(30, 5, 0), true}, {equalTurns(30, 1, 4), true}, {equalTurns(31, 1, 4), false},
		{turns(turn(-1, 0, 1)), false}, {turns(turn(0, 0, 1)), false}, {turns(turn(1, 0, 1)), true}, {turns(turn(999, 0, 1)), true}, {turns(turn(1000, 0, 1)), false},
		{turns(turn(1, -1, 1)), false}, {turns(turn(1, 0, 168)), true}, {turns(turn(1, 0, 169)), false}, {turns(turn(1, 167, 168)), true}, {turns(turn(1, 168, 168)), false}, {turns(turn(1, 168, 169)), false}, {turns(turn(1, 5, 5)), false}, {turns(turn(1, 5, 6)), true}, {turns(turn(1, 6, 5)), false},
		{turns(turn(1, 0, 10), turn(2, 9, 20)), false}, {turns(turn(1, 0, 10), turn(2, 10, 20)), true}, {turns(turn(1, 0, 10), turn(2, 11, 20)), true}, {turns(turn(1, 0, 10), turn(1, 10, 20)), true}, {turns(turn(1, 10, 20), turn(2, 0, 10)), false}, {turns(turn(1, 0, 10), turn(2, 167, 168)), true}, {turns(turn(1, 0, 10), turn(2, 167, 169)), false},
	}
	for _, c := range cases {
		if ok := impl.TurnsOk(c.list); ok != c.ok {
			t.Errorf("%v: %v", c.list, ok)
		}
	}
}

// TestTurnsOkOfEachPair goes through all hours of two turns at the beginning and at the end of the week.
func TestTurnsOkOfEachPair(t *testing.T) {
	for _, low := range []int{-2, 163, 80} {
		eachList(4, low, low+7, func(hours []int) {
			list := turns(turn(1, hours[0], hours[1]), turn(2, hours[2], hours[3]))
			if ok := impl.TurnsOk(list); ok != plainTurnsOk(list) {
				t.Errorf("%v: %v", list, ok)
			}
		})
	}
}

// TestTurnsOkOfSome moves one end or one Owner of valid turns.
func TestTurnsOkOfSome(t *testing.T) {
	random := rand.New(rand.NewSource(32))
	valid, invalid := 0, 0
	for range 40 {
		for _, list := range manyTurns(random) {
			if len(list) == 0 {
				continue
			}
			moved := slices.Clone(list)
			i := random.Intn(len(list))
			moved[i] = turn(list[i].Owner+random.Intn(3)-1, list[i].From+random.Intn(5)-2, list[i].To+random.Intn(5)-2)
			ok := impl.TurnsOk(moved)
			if ok != plainTurnsOk(moved) {
				t.Errorf("%v: %v", moved, ok)
			}
			if ok {
				valid++
			} else {
				invalid++
			}
		}
	}
	if valid < 500 || invalid < 500 {
		t.Errorf("only %d valid and %d invalid lists", valid, invalid)
	}
}

func TestOwnerAt(t *testing.T) {
	cases := []struct {
		list  []impl.Turn
		hour  int
		owner int
	}{
		// The first and the last hour of each turn, and those beside them.
		{threeTurns(), 0, 0}, {threeTurns(), 4, 0}, {threeTurns(), 5, 3}, {threeTurns(), 6, 3}, {threeTurns(), 9, 3}, {threeTurns(), 10, 8}, {threeTurns(), 19, 8}, {threeTurns(), 20, 0}, {threeTurns(), 25, 0}, {threeTurns(), 29, 0}, {threeTurns(), 30, 5}, {threeTurns(), 39, 5}, {threeTurns(), 40, 0}, {threeTurns(), 167, 0},
		// The next week and later ones.
		{threeTurns(), 168, 0}, {threeTurns(), 172, 0}, {threeTurns(), 173, 3}, {threeTurns(), 177, 3}, {threeTurns(), 178, 8}, {threeTurns(), 187, 8}, {threeTurns(), 188, 0}, {threeTurns(), 198, 5}, {threeTurns(), 207, 5}, {threeTurns(), 208, 0}, {threeTurns(), 16805, 3},
		// The week before, and earlier ones.
		{threeTurns(), -1, 0}, {threeTurns(), -128, 0}, {threeTurns(), -129, 5}, {threeTurns(), -138, 5}, {threeTurns(), -139, 0}, {threeTurns(), -149, 8}, {threeTurns(), -158, 8}, {threeTurns(), -159, 3}, {threeTurns(), -163, 3}, {threeTurns(), -164, 0}, {threeTurns(), -168, 0}, {threeTurns(), -169, 0}, {threeTurns(), -297, 5}, {threeTurns(), -331, 3},
		{wholeWeek(), 0, 7}, {wholeWeek(), 23, 7}, {wholeWeek(), 24, 9}, {wholeWeek(), 25, 2}, {wholeWeek(), 99, 2}, {wholeWeek(), 100, 9}, {wholeWeek(), 159, 9}, {wholeWeek(), 160, 7}, {wholeWeek(), 167, 7}, {wholeWeek(), 168, 7}, {wholeWeek(), 192, 9}, {wholeWeek(), -1, 7}, {wholeWeek(), -8, 7}, {wholeWeek(), -9, 9}, {wholeWeek(), -168, 7}, {wholeWeek(), -169, 7},
		{turns(turn(3, 0, 10), turn(5, 160, 168)), -1, 5}, {turns(turn(3, 0, 10), turn(5, 160, 168)), -168, 3}, {turns(turn(3, 0, 10), turn(5, 160, 168)), -169, 5}, {turns(turn(3, 0, 10), turn(5, 160, 168)), -9, 0}, {turns(turn(3, 0, 10), turn(5, 160, 168)), 335, 5}, {turns(turn(3, 0, 10), turn(5, 160, 168)), 336, 3},
		{turns(turn(3, 0, 1)), -168, 3}, {turns(turn(3, 0, 1)), -167, 0}, {turns(turn(3, 0, 1)), -169, 0}, {turns(turn(3, 0, 1)), 0, 3}, {turns(turn(3, 0, 1)), 1, 0}, {turns(turn(3, 0, 1)), 168, 3}, {turns(turn(3, 167, 168)), 167, 3}, {turns(turn(3, 167, 168)), -1, 3}, {turns(turn(3, 167, 168)), -169, 3}, {turns(turn(3, 167, 168)), 0, 0}, {turns(turn(3, 167, 168)), 168, 0}, {turns(turn(3, 167, 168)), 335, 3},
		// The same Owner's turns that touch.
		{bothSides(), 2, 4}, {bothSides(), 3, 4}, {bothSides(), 5, 4}, {bothSides(), 6, 6}, {bothSides(), 7, 0}, {bothSides(), 149, 0}, {bothSides(), 150, 4}, {bothSides(), 167, 4}, {bothSides(), -1, 4}, {bothSides(), -18, 4}, {bothSides(), -19, 0},
		// 1000000 is hour 64 of a week, and -1000000 is hour 104.
		{turns(turn(6, 64, 65), turn(7, 104, 105)), 1000000, 6}, {turns(turn(6, 64, 65), turn(7, 104, 105)), 999999, 0}, {turns(turn(6, 64, 65), turn(7, 104, 105)), -1000000, 7}, {turns(turn(6, 64, 65), turn(7, 104, 105)), -999999, 0}, {turns(turn(6, 63, 64), turn(7, 105, 106)), 1000000, 0}, {turns(turn(6, 63, 64), turn(7, 105, 106)), -1000000, 0}, {turns(turn(6, 63, 64), turn(7, 105, 106)), 999999, 6}, {turns(turn(6, 63, 64), turn(7, 105, 106)), -999999, 7},
		// No turns, one for the whole week, and 30.
		{nil, 0, 0}, {nil, 167, 0}, {nil, -1, 0}, {nil, 1000000, 0}, {nil, -1000000, 0}, {turns(turn(999, 0, 168)), 0, 999}, {turns(turn(999, 0, 168)), 167, 999}, {turns(turn(999, 0, 168)), 168, 999}, {turns(turn(999, 0, 168)), -1, 999}, {turns(turn(1, 0, 168)), 1000000, 1}, {turns(turn(1, 0, 168)), -1000000, 1},
		{equalTurns(30, 5, 0), 0, 1}, {equalTurns(30, 5, 0), 145, 30}, {equalTurns(30, 5, 0), 149, 30}, {equalTurns(30, 5, 0), 150, 0}, {equalTurns(30, 1, 4), 145, 30}, {equalTurns(30, 1, 4), 144, 0}, {equalTurns(30, 1, 4), 146, 0}, {equalTurns(30, 1, 0), -139, 30}, {equalTurns(30, 1, 0), -138, 0},
	}
	for _, c := range cases {
		if owner := impl.OwnerAt(c.list, c.hour); owner != c.owner {
			t.Errorf("OwnerAt(%v, %d): %d", c.list, c.hour, owner)
		}
	}
}

func TestInvalidOwnerAt(t *testing.T) {
	for _, list := range invalidTurns() {
		for _, hour := range append(wrongHours(), -1000000, -169, -168, -1, 0, 5, 83, 167, 168, 1000000) {
			if owner := impl.OwnerAt(list, hour); owner != -1 {
				t.Errorf("OwnerAt(%v, %d): %d", list, hour, owner)
			}
		}
	}
	for _, list := range validTurns() {
		for _, hour := range wrongHours() {
			if owner := impl.OwnerAt(list, hour); owner != -1 {
				t.Errorf("OwnerAt(%v, %d): %d", list, hour, owner)
			}
		}
	}
}

func TestHoursOf(t *testing.T) {
	cases := []struct {
		list  []impl.Turn
		owner int
		hours int
	}{
		{threeTurns(), 3, 5}, {threeTurns(), 8, 10}, {threeTurns(), 5, 10}, {threeTurns(), 4, 0},
		// Several turns of one Owner, also ones that touch.
		{wholeWeek(), 7, 32}, {wholeWeek(), 9, 61}, {wholeWeek(), 2, 75}, {wholeWeek(), 1, 0}, {bothSides(), 4, 24}, {bothSides(), 6, 1}, {turns(turn(3, 0, 10), turn(3, 10, 20)), 3, 20}, {turns(turn(3, 0, 10), turn(3, 11, 20)), 3, 19},
		{nil, 1, 0}, {nil, 0, 0}, {turns(turn(1, 0, 168)), 1, 168}, {turns(turn(999, 0, 168)), 999, 168}, {turns(turn(999, 0, 168)), 998, 0}, {turns(turn(5, 0, 1)), 5, 1}, {turns(turn(5, 167, 168)), 5, 1}, {equalTurns(30, 5, 0), 30, 5}, {equalTurns(30, 5, 0), 31, 0}, {equalTurns(30, 1, 4), 1, 1}, {append(equalTurns(29, 1, 4), turn(1, 167, 168)), 1, 2},
		// Nobody can have a turn with these numbers.
		{threeTurns(), 0, 0}, {threeTurns(), -1, 0}, {threeTurns(), -3, 0}, {threeTurns(), 1000, 0}, {threeTurns(), math.MinInt, 0}, {threeTurns(), math.MaxInt, 0}, {wholeWeek(), 0, 0}, {wholeWeek(), math.MinInt, 0}, {wholeWeek(), math.MaxInt, 0},
	}
	for _, c := range cases {
		if hours := impl.HoursOf(c.list, c.owner); hours != c.hours {
			t.Errorf("HoursOf(%v, %d): %d", c.list, c.owner, hours)
		}
	}
	for _, list := range invalidTurns() {
		for _, owner := range append(wrongOwners(), ownersIn(list)...) {
			if hours := impl.HoursOf(list, owner); hours != -1 {
				t.Errorf("HoursOf(%v, %d): %d", list, owner, hours)
			}
		}
	}
}

func TestFreeHours(t *testing.T) {
	cases := []struct {
		list []impl.Turn
		free int
	}{
		{threeTurns(), 143}, {wholeWeek(), 0}, {bothSides(), 143}, {nil, 168}, {turns(), 168}, {turns(turn(1, 0, 168)), 0}, {turns(turn(1, 0, 167)), 1}, {turns(turn(1, 1, 168)), 1}, {turns(turn(1, 0, 1)), 167}, {turns(turn(1, 167, 168)), 167},
		{turns(turn(3, 0, 10), turn(5, 12, 20)), 150}, {turns(turn(3, 0, 10), turn(5, 10, 20)), 148}, {turns(turn(3, 0, 10), turn(3, 10, 20)), 148}, {turns(turn(5, 0, 1), turn(3, 1, 168)), 0}, {turns(turn(5, 0, 1), turn(3, 2, 167)), 2}, {equalTurns(30, 5, 0), 18}, {equalTurns(30, 1, 4), 138}, {append(equalTurns(29, 5, 0), turn(999, 145, 168)), 0},
	}
	for _, c := range cases {
		if free := impl.FreeHours(c.list); free != c.free {
			t.Errorf("FreeHours(%v): %d", c.list, free)
		}
	}
	for _, list := range invalidTurns() {
		if free := impl.FreeHours(list); free != -1 {
			t.Errorf("FreeHours(%v): %d", list, free)
		}
	}
}

func TestNextTurn(t *testing.T) {
	far := turns(turn(6, 64, 65), turn(7, 104, 105))
	cases := []struct {
		list  []impl.Turn
		owner int
		hour  int
		wait  int
	}{
		// It is running already, is in the same week or in the next one.
		{threeTurns(), 3, 5, 0}, {threeTurns(), 3, 7, 0}, {threeTurns(), 3, 9, 0}, {threeTurns(), 3, 4, 1}, {threeTurns(), 3, 0, 5}, {threeTurns(), 3, 10, 163}, {threeTurns(), 3, 11, 162}, {threeTurns(), 3, 167, 6}, {threeTurns(), 8, 0, 10}, {threeTurns(), 8, 9, 1}, {threeTurns(), 8, 10, 0}, {threeTurns(), 8, 19, 0}, {threeTurns(), 8, 20, 158}, {threeTurns(), 5, 5, 25}, {threeTurns(), 5, 39, 0}, {threeTurns(), 5, 40, 158}, {threeTurns(), 5, 41, 157},
		// Hours of other weeks.
		{threeTurns(), 3, 168, 5}, {threeTurns(), 3, 173, 0}, {threeTurns(), 3, 177, 0}, {threeTurns(), 3, 178, 163}, {threeTurns(), 3, -1, 6}, {threeTurns(), 3, -163, 0}, {threeTurns(), 3, -164, 1}, {threeTurns(), 3, -158, 163}, {threeTurns(), 3, -168, 5}, {threeTurns(), 3, -169, 6}, {threeTurns(), 5, -1, 31}, {threeTurns(), 5, -129, 0}, {threeTurns(), 5, -128, 158}, {threeTurns(), 8, -169, 11}, {threeTurns(), 8, 16800, 10},
		{far, 6, 1000000, 0}, {far, 7, 1000000, 40}, {far, 6, 999999, 1}, {far, 7, -1000000, 0}, {far, 6, -1000000, 128}, {far, 7, -999999, 167}, {turns(turn(6, 65, 66)), 6, 1000000, 1}, {turns(turn(6, 63, 64)), 6, 1000000, 167}, {turns(turn(6, 105, 106)), 6, -1000000, 1}, {turns(turn(6, 103, 104)), 6, -1000000, 167},
		// Several turns of one Owner, over the end of the week too.
		{wholeWeek(), 7, 0, 0}, {wholeWeek(), 7, 23, 0}, {wholeWeek(), 7, 24, 136}, {wholeWeek(), 7, 159, 1}, {wholeWeek(), 7, 160, 0}, {wholeWeek(), 7, 167, 0}, {wholeWeek(), 9, 0, 24}, {wholeWeek(), 9, 25, 75}, {wholeWeek(), 9, 160, 32}, {wholeWeek(), 2, 100, 93}, {bothSides(), 4, 2, 0}, {bothSides(), 4, 3, 0}, {bothSides(), 4, 6, 144}, {bothSides(), 4, 167, 0}, {bothSides(), 4, -1, 0}, {bothSides(), 6, 7, 167}, {bothSides(), 6, 6, 0},
		{turns(turn(3, 0, 1)), 3, 0, 0}, {turns(turn(3, 0, 1)), 3, 1, 167}, {turns(turn(3, 0, 1)), 3, 167, 1}, {turns(turn(3, 0, 1)), 3, -1, 1}, {turns(turn(3, 0, 1)), 3, -168, 0}, {turns(turn(3, 0, 1)), 3, -167, 167}, {turns(turn(3, 167, 168)), 3, 0, 167}, {turns(turn(3, 167, 168)), 3, -1, 0}, {turns(turn(3, 167, 168)), 3, 168, 167}, {turns(turn(3, 167, 168)), 3, 166, 1},
		{turns(turn(999, 0, 168)), 999, 0, 0}, {turns(turn(999, 0, 168)), 999, -1, 0}, {turns(turn(999, 0, 168)), 999, 1000000, 0}, {turns(turn(1, 0, 168)), 1, -1000000, 0}, {equalTurns(30, 5, 0), 30, 0, 145}, {equalTurns(30, 5, 0), 30, 150, 163}, {equalTurns(30, 5, 0), 1, 5, 163},
		// It never is.
		{threeTurns(), 4, 0, -1}, {threeTurns(), 1, 0, -1}, {threeTurns(), 999, 0, -1}, {threeTurns(), 1000, 0, -1}, {threeTurns(), math.MaxInt, 0, -1}, {wholeWeek(), 1, 0, -1}, {nil, 1, 0, -1}, {nil, 999, 1000000, -1}, {turns(turn(999, 0, 168)), 998, 0, -1}, {equalTurns(30, 5, 0), 31, 0, -1},
		// An owner of 0 does not stand for the hours that are nobody's.
		{threeTurns(), 0, 0, -1}, {threeTurns(), 0, 7, -1}, {nil, 0, 0, -1}, {wholeWeek(), 0, 0, -1}, {threeTurns(), -1, 0, -1}, {threeTurns(), -3, 7, -1}, {threeTurns(), math.MinInt, 0, -1}, {nil, -1, 0, -1},
	}
	for _, c := range cases {
		if wait := impl.NextTurn(c.list, c.owner, c.hour); wait != c.wait {
			t.Errorf("NextTurn(%v, %d, %d): %d", c.list, c.owner, c.hour, wait)
		}
	}
}

func TestInvalidNextTurn(t *testing.T) {
	for _, list := range invalidTurns() {
		for _, owner := range append(ownersIn(list), 0) {
			for _, hour := range []int{-1000000, -1, 0, 5, 83, 167, 1000000, 1000001, math.MinInt, math.MaxInt} {
				if wait := impl.NextTurn(list, owner, hour); wait != -1 {
					t.Errorf("NextTurn(%v, %d, %d): %d", list, owner, hour, wait)
				}
			}
		}
	}
	for _, list := range validTurns() {
		for _, owner := range append(ownersIn(list), wrongOwners()...) {
			for _, hour := range wrongHours() {
				if wait := impl.NextTurn(list, owner, hour); wait != -1 {
					t.Errorf("NextTurn(%v, %d, %d): %d", list, owner, hour, wait)
				}
			}
		}
		for _, owner := range wrongOwners() {
			for _, hour := range []int{-1000000, -1, 0, 5, 83, 167, 1000000} {
				if wait := impl.NextTurn(list, owner, hour); wait != -1 {
					t.Errorf("NextTurn(%v, %d, %d): %d", list, owner, hour, wait)
				}
			}
		}
	}
}

func TestSwapTurns(t *testing.T) {
	cases := []struct {
		list  []impl.Turn
		i     int
		k     int
		after []impl.Turn
	}{
		{threeTurns(), 0, 1, turns(turn(8, 5, 10), turn(3, 10, 20), turn(5, 30, 40))}, {threeTurns(), 0, 2, turns(turn(5, 5, 10), turn(8, 10, 20), turn(3, 30, 40))}, {threeTurns(), 1, 2, turns(turn(3, 5, 10), turn(5, 10, 20), turn(8, 30, 40))},
		// The same turns in the other order, and one turn twice.
		{threeTurns(), 1, 0, turns(turn(8, 5, 10), turn(3, 10, 20), turn(5, 30, 40))}, {threeTurns(), 2, 0, turns(turn(5, 5, 10), turn(8, 10, 20), turn(3, 30, 40))}, {threeTurns(), 2, 1, turns(turn(3, 5, 10), turn(5, 10, 20), turn(8, 30, 40))}, {threeTurns(), 0, 0, threeTurns()}, {threeTurns(), 1, 1, threeTurns()}, {threeTurns(), 2, 2, threeTurns()}, {turns(turn(1, 0, 168)), 0, 0, turns(turn(1, 0, 168))},
		// Two turns of one Owner, and another Owner's hours on both sides of its own.
		{wholeWeek(), 0, 4, wholeWeek()}, {wholeWeek(), 3, 1, wholeWeek()}, {bothSides(), 0, 1, bothSides()}, {bothSides(), 3, 0, bothSides()}, {bothSides(), 2, 3, turns(turn(4, 0, 3), turn(4, 3, 6), turn(4, 6, 7), turn(6, 150, 168))}, {bothSides(), 0, 2, turns(turn(6, 0, 3), turn(4, 3, 6), turn(4, 6, 7), turn(4, 150, 168))},
		{turns(turn(999, 0, 84), turn(1, 84, 168)), 0, 1, turns(turn(1, 0, 84), turn(999, 84, 168))}, {equalTurns(30, 5, 0), 0, 29, withTurn(withTurn(equalTurns(30, 5, 0), 0, turn(30, 0, 5)), 29, turn(1, 145, 150))}, {equalTurns(30, 1, 4), 29, 28, withTurn(withTurn(equalTurns(30, 1, 4), 28, turn(30, 140, 141)), 29, turn(29, 145, 146))},
	}
	for _, c := range cases {
		if after, ok := impl.SwapTurns(c.list, c.i, c.k); !ok || !slices.Equal(after, c.after) {
			t.Errorf("SwapTurns(%v, %d, %d): %v, %v", c.list, c.i, c.k, after, ok)
		}
	}
}

// checkNoSwap checks that the turns stay as they are.
func checkNoSwap(t *testing.T, list []impl.Turn, i int, k int) {
	t.Helper()
	before := slices.Clone(list)
	if after, ok := impl.SwapTurns(list, i, k); ok || !slices.Equal(after, before) {
		t.Errorf("SwapTurns(%v, %d, %d): %v, %v", list, i, k, after, ok)
	}
}

func TestInvalidSwapTurns(t *testing.T) {
	for _, list := range invalidTurns() {
		for _, i := range []int{math.MinInt, -1, 0, len(list) - 1, len(list), math.MaxInt} {
			for _, k := range []int{math.MinInt, -1, 0, len(list) / 2, len(list) - 1, len(list), math.MaxInt} {
				checkNoSwap(t, list, i, k)
			}
		}
	}
	for _, list := range validTurns() {
		for _, wrong := range []int{math.MinInt, math.MinInt + 1, -31, -2, -1, len(list), len(list) + 1, 30, 31, 168, math.MaxInt - 1, math.MaxInt} {
			checkNoSwap(t, list, wrong, wrong)
			for i := range list {
				checkNoSwap(t, list, i, wrong)
				checkNoSwap(t, list, wrong, i)
			}
		}
	}
}

// TestEveryHourHasOneOwnerAtMost is the first half of promise 13: whoever an hour has is the Owner of the one turn it is in, and all hours are somebody's or free.
func TestEveryHourHasOneOwnerAtMost(t *testing.T) {
	for _, list := range manyTurns(rand.New(rand.NewSource(33))) {
		week := plainWeek(t, list)
		for hour, owner := range week {
			if got := impl.OwnerAt(list, hour); got != owner {
				t.Errorf("OwnerAt(%v, %d): %d instead of %d", list, hour, got, owner)
			}
		}
		sum := impl.FreeHours(list)
		if sum != hoursIn(week, 0) {
			t.Errorf("FreeHours(%v): %d instead of %d", list, sum, hoursIn(week, 0))
		}
		for owner := 1; owner <= 999; owner++ {
			hours := impl.HoursOf(list, owner)
			if hours != hoursIn(week, owner) {
				t.Errorf("HoursOf(%v, %d): %d instead of %d", list, owner, hours, hoursIn(week, owner))
			}
			sum += hours
		}
		if sum != 168 {
			t.Errorf("%v: %d hours together", list, sum)
		}
	}
}

// TestTurnsComeAgainEachWeek is the second half of promise 13.
func TestTurnsComeAgainEachWeek(t *testing.T) {
	for _, list := range manyTurns(rand.New(rand.NewSource(34))) {
		week := plainWeek(t, list)
		for _, hour := range someHours() {
			if owner := impl.OwnerAt(list, hour); owner != week[plainHour(hour)] {
				t.Errorf("OwnerAt(%v, %d): %d instead of %d", list, hour, owner, week[plainHour(hour)])
			}
		}
	}
	list := bothSides()
	week := plainWeek(t, list)
	for hour := -1000000; hour <= 1000000; hour++ {
		if owner := impl.OwnerAt(list, hour); owner != week[(hour+168*6000)%168] {
			t.Fatalf("OwnerAt(%v, %d): %d", list, hour, owner)
		}
	}
}

// TestNextTurnIsTheNext checks the hours up to each next turn, and that it is the same in each week.
func TestNextTurnIsTheNext(t *testing.T) {
	random := rand.New(rand.NewSource(35))
	for _, list := range manyTurns(random) {
		week := plainWeek(t, list)
		for _, owner := range ownersIn(list) {
			for range 20 {
				hour := someHours()[random.Intn(len(someHours()))]
				wait := impl.NextTurn(list, owner, hour)
				if want := plainNext(week, owner, plainHour(hour)); wait != want {
					t.Errorf("NextTurn(%v, %d, %d): %d instead of %d", list, owner, hour, wait, want)
				}
				if (wait == -1) != (impl.HoursOf(list, owner) == 0) {
					t.Errorf("NextTurn(%v, %d, %d): %d, but %d hours", list, owner, hour, wait, impl.HoursOf(list, owner))
				}
			}
		}
	}
}

// TestNextTurnOfEachHour goes through all hours of two weeks and all Owners.
func TestNextTurnOfEachHour(t *testing.T) {
	for _, list := range [][]impl.Turn{threeTurns(), wholeWeek(), bothSides(), equalTurns(30, 1, 4), nil} {
		week := plainWeek(t, list)
		for _, owner := range ownersIn(list) {
			for hour := -168; hour < 168; hour++ {
				wait, want := impl.NextTurn(list, owner, hour), plainNext(week, owner, (hour+168)%168)
				if wait != want {
					t.Errorf("NextTurn(%v, %d, %d): %d instead of %d", list, owner, hour, wait, want)
				}
				if wait > 0 && impl.OwnerAt(list, hour+wait-1) == owner || wait >= 0 && impl.OwnerAt(list, hour+wait) != owner {
					t.Errorf("NextTurn(%v, %d, %d): %d", list, owner, hour, wait)
				}
			}
		}
	}
}

// TestSwappedTurns checks that only both Owners change, and that a second exchange undoes the first one.
func TestSwappedTurns(t *testing.T) {
	random := rand.New(rand.NewSource(36))
	for _, list := range manyTurns(random) {
		for i := range list {
			k := random.Intn(len(list))
			after, ok := impl.SwapTurns(list, i, k)
			if !ok || !impl.TurnsOk(after) || impl.FreeHours(after) != impl.FreeHours(list) || len(after) != len(list) {
				t.Fatalf("SwapTurns(%v, %d, %d): %v, %v", list, i, k, after, ok)
			}
			for at, was := range list {
				switch at {
				case i:
					was.Owner = list[k].Owner
				case k:
					was.Owner = list[i].Owner
				}
				if after[at] != was {
					t.Errorf("SwapTurns(%v, %d, %d): %v", list, i, k, after)
				}
			}
			if again, ok := impl.SwapTurns(after, k, i); !ok || !slices.Equal(again, list) {
				t.Errorf("%v are exchanged as %v, and exchanged again they are %v, %v", list, after, again, ok)
			}
		}
	}
}

// turnsWithSpare is an equal list, and the longer one of which it is a part.
func turnsWithSpare(list []impl.Turn) ([]impl.Turn, []impl.Turn) {
	long := append(slices.Clone(list), turn(-1, -2, -3), turn(-4, -5, -6))
	return long[:len(list)], long
}

// eachSwap calls SwapTurns with good indexes and wrong ones.
func eachSwap(list []impl.Turn, visit func(i int, k int)) {
	for _, i := range []int{-1, 0, len(list) / 2, len(list)} {
		for _, k := range []int{-1, 0, len(list) - 1, len(list)} {
			visit(i, k)
		}
	}
}

// TestTurnsAreNotChanged calls each function with turns that are a part of a longer list, and writes into the results.
func TestTurnsAreNotChanged(t *testing.T) {
	for _, given := range slices.Concat(validTurns(), invalidTurns()) {
		list, long := turnsWithSpare(given)
		before := slices.Clone(long)
		for range 2 {
			impl.TurnsOk(list)
			impl.FreeHours(list)
			for _, n := range []int{-169, -1, 0, 4, 1000001} {
				impl.OwnerAt(list, n)
				impl.HoursOf(list, n)
				impl.NextTurn(list, n, n)
			}
			eachSwap(list, func(i int, k int) {
				after, _ := impl.SwapTurns(list, i, k)
				for at := range after {
					after[at] = turn(-7, -8, -9)
				}
				_ = append(after, turn(-7, -8, -9))
			})
		}
		if !slices.Equal(long, before) {
			t.Errorf("the turns have become %v instead of %v", long, before)
		}
	}
}

// TestResultsKeepTheirTurns writes into the turns after the calls.
func TestResultsKeepTheirTurns(t *testing.T) {
	for _, given := range slices.Concat(validTurns(), invalidTurns()) {
		eachSwap(given, func(i int, k int) {
			list, long := turnsWithSpare(given)
			after, _ := impl.SwapTurns(list, i, k)
			again, _ := impl.SwapTurns(list, i, k)
			want := slices.Clone(after)
			for at := range long {
				long[at] = turn(-1, -2, -3)
			}
			for at := range again {
				again[at] = turn(-4, -5, -6)
			}
			if !slices.Equal(after, want) {
				t.Errorf("SwapTurns(%v, %d, %d) has become %v", given, i, k, after)
			}
		})
	}
}

// TestTurnsAtTheSameTime calls the functions from many goroutines: no turns get Owners of other ones.
func TestTurnsAtTheSameTime(t *testing.T) {
	var all sync.WaitGroup
	for _, list := range manyTurns(rand.New(rand.NewSource(37))) {
		if len(list) == 0 {
			continue
		}
		week := plainWeek(t, list)
		last := len(list) - 1
		all.Go(func() {
			for hour := range 168 {
				after, ok := impl.SwapTurns(list, 0, last)
				if !ok || after[0].Owner != list[last].Owner || after[last].Owner != list[0].Owner {
					t.Errorf("SwapTurns(%v, 0, %d): %v, %v", list, last, after, ok)
				}
				owner := impl.OwnerAt(list, hour)
				if owner != week[hour] || impl.NextTurn(list, list[0].Owner, hour) != plainNext(week, list[0].Owner, hour) {
					t.Errorf("%v, hour %d: %d", list, hour, owner)
				}
			}
		})
	}
	all.Wait()
}
