package impl

type Watch struct {
	From int
	To   int
	Pay  int
}

func WatchesOk(list []Watch) bool { return false }

func IsWatched(list []Watch, from int, to int) bool { return false }

func FewestWatches(list []Watch, from int, to int) ([]int, bool) { return []int{}, false }

func CheapestWatch(list []Watch, from int, to int) int { return 0 }

func GapsIn(list []Watch, from int, to int) []int { return []int{} }
