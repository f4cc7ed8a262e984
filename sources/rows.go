package sources

import "plunder/api"

// Rows makes all rows of so many statements, those within blocks counted: plain ones as they are given, and ifs and whiles with this condition.
func Rows(n int, condition api.Expr, plain ...api.Stmt) [][]api.Stmt {
	if n == 0 {
		return [][]api.Stmt{nil}
	}
	rows := func(n int) [][]api.Stmt { return Rows(n, condition, plain...) }
	var all [][]api.Stmt
	put := func(s api.Stmt, behind [][]api.Stmt) {
		for _, row := range behind {
			all = append(all, append([]api.Stmt{s}, row...))
		}
	}
	for _, s := range plain {
		put(s, rows(n-1))
	}
	for in := range n {
		for _, body := range rows(in) {
			put(api.Stmt{Kind: api.SWhile, E: condition, Body: body}, rows(n-1-in))
		}
		for other := range n - in {
			for _, body := range rows(in) {
				for _, els := range rows(other) {
					put(api.Stmt{Kind: api.SIf, E: condition, Body: body, Else: els}, rows(n-1-in-other))
				}
			}
		}
	}
	return all
}
