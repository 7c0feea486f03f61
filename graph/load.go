package graph

import (
	"gusset/api"
	"gusset/module"
	"gusset/path"
	"gusset/vfs"
)

// A request is the path of the module that asks, and what it asks for; the entry is asked for from no path.
type request struct {
	from, text string
}

// A fault is an error, and the request that met it; of a source that cannot be read it is the module's path alone.
type fault struct {
	by  request
	err api.Errno
}

// A loader visits modules.
type loader struct {
	files *vfs.Table
	mods  []api.Mod
	// numbers are those of the modules that were visited, by their paths.
	numbers map[string]int
	// targets are the modules to which requests led: a module may have the same one many times, and it is looked for once.
	targets map[request]int
}

// ask tells the module to which a module's request leads, and has it visited.
func (l *loader) ask(r request) (int, fault) {
	if target, asked := l.targets[r]; asked {
		return target, fault{}
	}
	p, err := path.Join(r.from, r.text)
	target, f := l.follow(r, p, err)
	if f == (fault{}) {
		l.targets[r] = target
	}
	return target, f
}

// follow tells the module at the path of a request, unless that is none, and has it visited.
func (l *loader) follow(r request, p string, err api.Errno) (int, fault) {
	if err != api.OK {
		return 0, fault{r, err}
	}
	file, has := Probe(l.files, p)
	if !has {
		return 0, fault{r, api.ErrNoFile}
	}
	if number, visited := l.numbers[file]; visited {
		return number, fault{}
	}
	if len(l.mods) == api.MaxFiles {
		return 0, fault{r, api.ErrMany}
	}
	return len(l.mods), l.visit(file)
}

// visit reads a module, gives it the next number, and follows its requests.
func (l *loader) visit(file string) fault {
	source, _ := l.files.Read(file)
	tree, _, err := module.Module(source)
	if err != api.OK {
		return fault{request{file, ""}, err}
	}
	requests := Requests(tree)
	l.numbers[file] = len(l.mods)
	l.mods = append(l.mods, api.Mod{Path: file, Tree: tree, Requests: requests})
	for i, r := range requests {
		target, f := l.ask(request{file, r.Text})
		if f != (fault{}) {
			return f
		}
		requests[i].Target = target
	}
	return fault{}
}
