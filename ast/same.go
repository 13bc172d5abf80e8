package ast

import "slices"

// Same reports whether a and b are equal except for positions.
func Same(a, b []Module) bool { return slices.EqualFunc(a, b, sameModule) }

func sameModule(a, b Module) bool {
	return a.Name == b.Name && sameItems(a.Params, b.Params) && sameItems(a.Ports, b.Ports) && sameItems(a.Items, b.Items)
}

func sameItems(a, b []Item) bool { return slices.EqualFunc(a, b, sameItem) }

func sameItem(a, b Item) bool {
	return a.Kind == b.Kind && a.Text == b.Text && a.Type == b.Type && a.Signed == b.Signed &&
		sameExprs(a.Exprs, b.Exprs) && sameExprs(a.First, b.First) && sameStmts(a.Body, b.Body) &&
		sameItems(a.Items, b.Items) && sameItems(a.Else, b.Else) &&
		sameConns(a.Params, b.Params) && sameConns(a.Ports, b.Ports)
}

func sameConns(a, b []Conn) bool { return slices.EqualFunc(a, b, sameConn) }

func sameConn(a, b Conn) bool { return a.Name == b.Name && sameExprs(a.Exprs, b.Exprs) }

func sameStmts(a, b []Stmt) bool { return slices.EqualFunc(a, b, sameStmt) }

func sameStmt(a, b Stmt) bool {
	return a.Kind == b.Kind && a.Text == b.Text && sameExprs(a.Exprs, b.Exprs) && sameStmts(a.Body, b.Body) &&
		slices.EqualFunc(a.Arms, b.Arms, sameArm)
}

func sameArm(a, b Arm) bool { return sameExprs(a.Exprs, b.Exprs) && sameStmt(a.Body, b.Body) }

func sameExprs(a, b []Expr) bool { return slices.EqualFunc(a, b, sameExpr) }

func sameExpr(a, b Expr) bool {
	return a.Kind == b.Kind && a.Text == b.Text && sameExprs(a.Args, b.Args)
}
