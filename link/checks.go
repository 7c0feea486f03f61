package link

import "gusset/api"

// A fault is an error, and the name that it is about.
type fault struct {
	name string
	err  api.Errno
}

// A check tells the first fault of a module that it looks for; none is zero.
type check func(mod int) fault

// first tells the first fault and its module: each check goes over all modules ahead of the next one.
func first(modules int, checks ...check) (int, fault) {
	for _, c := range checks {
		for mod := range modules {
			if f := c(mod); f != (fault{}) {
				return mod, f
			}
		}
	}
	return 0, fault{}
}

// inTurn makes checks one: all of them look at a module ahead of the next module.
func inTurn(checks ...check) check {
	return func(mod int) fault {
		for _, c := range checks {
			if f := c(mod); f != (fault{}) {
				return f
			}
		}
		return fault{}
	}
}
