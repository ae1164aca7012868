package tests

// stringsUpTo returns all strings of at most n bytes from an alphabet, the
// shorter ones first.
func stringsUpTo(alphabet string, n int) []string {
	all := []string{""}
	level := all
	for range n {
		var next []string
		for _, s := range level {
			for i := range len(alphabet) {
				next = append(next, s+alphabet[i:i+1])
			}
		}
		all = append(all, next...)
		level = next
	}
	return all
}
