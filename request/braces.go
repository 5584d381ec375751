package request

// Braces goes over a line from a depth of braces on, up to the place behind the \} that ends the outermost of them (-1: none does).
func Braces(line string, depth int) (int, int) {
	open := uint64(max(0, depth)) // on the way it may be more than an int holds
	for at := 0; at < len(line); {
		n := together(line[at:])
		switch line[at : at+n] {
		case `\{`:
			open++
		case `\}`:
			if open == 1 {
				return 0, at + n
			}
			open = max(1, open) - 1
		}
		at += n
	}
	return int(open), -1
}
