package plan

// finder gives the function that tells where in a list a name stands first; -1: nowhere.
func finder[T any](list []T, name func(T) string) func(string) int {
	places := make(map[string]int, len(list))
	for place, x := range list {
		if _, there := places[name(x)]; !there {
			places[name(x)] = place
		}
	}
	return func(s string) int {
		if place, there := places[s]; there {
			return place
		}
		return -1
	}
}

// itself is the name that a name has.
func itself(s string) string { return s }
