// Package ends counts what two rows have alike at both ends, for the layers that keep that and look at what is between.
package ends

// Alike counts how many of two rows, of n and of m, are the same one behind the other: from ahead, and then, of the rest,
// so that none counts twice, from behind.
func Alike(n int, m int, same func(i int, j int) bool) (int, int) {
	least := min(n, m)
	ahead := 0
	for ahead < least && same(ahead, ahead) {
		ahead++
	}
	behind := 0
	for behind < least-ahead && same(n-1-behind, m-1-behind) {
		behind++
	}
	return ahead, behind
}
