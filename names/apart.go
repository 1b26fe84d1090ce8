package names

// Apart: P7.6.
func Apart(a, b string) int {
	if len(a) < len(b) {
		a, b = b, a // as many steps lead back, and the rows are as long as b
	}
	to := []rune(b)
	rows := [2][]int{make([]int, len(to)+1), make([]int, len(to)+1)}
	for n := range rows[0] {
		rows[0][n] = n
	}
	for _, from := range a {
		nextRow(rows[1], rows[0], from, to)
		rows[0], rows[1] = rows[1], rows[0]
	}
	return rows[0][len(to)]
}

// nextRow fills a row from the one above it: at n of a row is how many steps lead from the characters of a so far to the
// first n of to. The character from is the one that comes in with this row.
func nextRow(row, above []int, from rune, to []rune) {
	row[0] = above[0] + 1
	for n, r := range to {
		exchanged := above[n]
		if r != from {
			exchanged++
		}
		row[n+1] = min(exchanged, above[n+1]+1, row[n]+1)
	}
}
