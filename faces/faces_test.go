// Package faces holds each layer's calls against the signatures that the chapters list.
package faces

import (
	"iter"
	"testing"

	"gusset/api"
	"gusset/build"
	"gusset/check"
	"gusset/desk"
	"gusset/exports"
	"gusset/flow"
	"gusset/graph"
	"gusset/hoist"
	"gusset/lex"
	"gusset/link"
	"gusset/modrun"
	"gusset/module"
	"gusset/oper"
	"gusset/order"
	"gusset/parse"
	"gusset/path"
	"gusset/pure"
	"gusset/rename"
	"gusset/run"
	"gusset/runes"
	"gusset/scope"
	"gusset/shake"
	"gusset/show"
	"gusset/sign"
	"gusset/sub"
	"gusset/tree"
	"gusset/types"
	"gusset/value"
	"gusset/vfs"
)

// TestFaces has nothing to run: where a face is missing, or is another one, it does not compile.
func TestFaces(t *testing.T) {
	var _ func(string) bool = runes.Valid
	var _ func(string) int = runes.Count
	var _ func(string, int) (string, bool) = runes.At
	var _ func(string, int, int) string = runes.Slice
	var _ func(rune) bool = runes.Letter
	var _ func(rune) bool = runes.Digit
	var _ func(string) string = runes.Quote
	var _ func(string) (string, int, api.Errno) = runes.Unquote

	var _ func() *vfs.Table = vfs.New
	var _ func(*vfs.Table, string, string) api.Errno = (*vfs.Table).Write
	var _ func(*vfs.Table, string) bool = (*vfs.Table).Remove
	var _ func(*vfs.Table, string) (string, bool) = (*vfs.Table).Read
	var _ func(*vfs.Table, string) bool = (*vfs.Table).Has
	var _ func(*vfs.Table) int = (*vfs.Table).Len
	var _ func(*vfs.Table) []api.File = (*vfs.Table).Files
	var _ func(*vfs.Table, []api.File) api.Errno = (*vfs.Table).Load
	var _ func(*vfs.Table) *vfs.Table = (*vfs.Table).Copy

	var _ func(string) (string, api.Errno) = path.Normal
	var _ func(string) string = path.Dir
	var _ func(string, string) (string, api.Errno) = path.Join
	var _ func(string) []string = path.Probes

	var _ func() []string = lex.Words
	var _ func(string, bool) ([]api.Token, int, api.Errno) = lex.Lex
	var _ func([]api.Token) string = lex.Show

	var _ func(api.Node) int = tree.Form
	var _ func(api.Node, api.Node) bool = tree.Same
	var _ func(api.Node) api.Node = tree.Copy
	var _ func(api.Node) int = tree.Size
	var _ func(api.Node) int = tree.Depth
	var _ func(api.Node, int) (api.Node, bool) = tree.At
	var _ func(api.Node, int, api.Node) (api.Node, bool) = tree.Replace
	var _ func(api.Node) iter.Seq2[int, api.Node] = tree.All

	var _ func([]api.Token, int) (api.Node, int, api.Errno) = parse.Expr
	var _ func([]api.Token, int) (api.Node, int, api.Errno) = parse.Type
	var _ func([]api.Token, int) (api.Node, int, api.Errno) = parse.Stmt

	var _ func([]api.Token, int) (api.Node, int, api.Errno) = module.Item
	var _ func(string) (api.Node, int, api.Errno) = module.Module
	var _ func(string) (api.Node, int, api.Errno) = module.Script

	var _ func(api.Node) string = show.Show

	var _ func() []string = scope.Builtins
	var _ func(api.Node) (api.Scope, int, api.Errno) = scope.Resolve

	var _ func(api.Node) []api.Request = graph.Requests
	var _ func(*vfs.Table, string) (string, bool) = graph.Probe
	var _ func(*vfs.Table, string) (api.Graph, string, string, api.Errno) = graph.Load

	var _ func([][]int) api.Errno = order.Check
	var _ func([][]int) [][]int = order.Parts
	var _ func([][]int, int) []int = order.Order
	var _ func(api.Graph, bool) [][]int = order.Edges

	var _ func(api.Node, []api.Request) api.Entries = exports.Entries
	var _ func([]api.Entries, int, string) api.Found = exports.Resolve
	var _ func([]api.Entries, int) []string = exports.Names

	var _ func(api.Graph) (api.Linked, int, string, api.Errno) = link.Link
	var _ func(api.Linked, api.Found) bool = link.Value
	var _ func(api.Linked, int, api.Use) api.Found = link.Target

	var _ func(api.Type) api.Errno = types.Check
	var _ func(api.Type) int = types.Size
	var _ func(api.Type, api.Type) int = types.Compare
	var _ func(...api.Type) (api.Type, api.Errno) = types.Union
	var _ func([]api.Slot) (api.Type, api.Errno) = types.Record
	var _ func(api.Type) string = types.Show

	var _ func(api.Type, api.Type, []api.ClassInfo) bool = sub.Sub
	var _ func(api.Type, string, []api.ClassInfo) (api.Type, bool) = sub.Member
	var _ func(api.Type, api.Type) (api.Type, api.Errno) = sub.Join

	var _ func(api.Linked) (api.Signs, int, api.Errno) = sign.Sign
	var _ func(api.Linked, api.Signs, int, api.Node) (api.Type, api.Errno) = sign.Type

	var _ func(api.Node, bool) []api.Fact = flow.Facts
	var _ func(api.Type, api.Fact) api.Type = flow.Narrow

	var _ func(api.Linked, api.Signs) (int, int, api.Errno) = check.Check
	var _ func(api.Linked, api.Signs, int, int) (api.Type, api.Errno) = check.TypeOf

	var _ func(api.Node) bool = pure.Expr
	var _ func(api.Node) bool = pure.Item
	var _ func(api.Linked, int, int) []api.Found = pure.Mentions
	var _ func(api.Linked, int, int) []int = pure.Values

	var _ func(api.Linked) []api.Origin = shake.Roots
	var _ func(api.Linked) []api.Origin = shake.Keep
	var _ func(api.Linked) []int = shake.Spaces

	var _ func(int, string) string = rename.Name
	var _ func(int) string = rename.Space
	var _ func(string) (int, string, bool) = rename.Back
	var _ func(api.Linked, int, int) (api.Node, bool) = rename.Item

	var _ func(api.Linked) (api.Node, []api.Origin) = hoist.Bundle
	var _ func(api.Linked) []int = hoist.Order

	var _ func(api.Value) bool = value.Truth
	var _ func(api.Value, api.Value) bool = value.Same
	var _ func(api.Value) string = value.Typeof
	var _ func() *value.Heap = value.New
	var _ func(*value.Heap, []api.Value) api.Value = (*value.Heap).Array
	var _ func(*value.Heap, []string, []api.Value) api.Value = (*value.Heap).Object
	var _ func(*value.Heap, api.Value) int = (*value.Heap).Len
	var _ func(*value.Heap, api.Value, string) (api.Value, bool) = (*value.Heap).Get
	var _ func(*value.Heap, api.Value, string, api.Value) bool = (*value.Heap).Set
	var _ func(*value.Heap, api.Value, int) (api.Value, bool) = (*value.Heap).At
	var _ func(*value.Heap, api.Value, int, api.Value) bool = (*value.Heap).Put
	var _ func(*value.Heap, api.Value, api.Value) bool = (*value.Heap).Push
	var _ func(*value.Heap, api.Value) string = (*value.Heap).Text

	var _ func(string, api.Value) (api.Value, int) = oper.Unary
	var _ func(*value.Heap, string, api.Value, api.Value) (api.Value, int) = oper.Binary
	var _ func(*value.Heap, api.Value, string) (api.Value, int) = oper.Member
	var _ func(*value.Heap, api.Value, api.Value) (api.Value, int) = oper.Index
	var _ func(*value.Heap, api.Value, string, api.Value) int = oper.SetMember
	var _ func(*value.Heap, api.Value, api.Value, api.Value) int = oper.SetIndex
	var _ func(*value.Heap, string, []api.Value) (api.Value, int) = oper.Builtin

	var _ func([]api.Unit) api.Errno = run.Check
	var _ func([]api.Unit, []string, int) (api.Outcome, api.Errno) = run.Units
	var _ func(api.Node, []string, int) (api.Outcome, api.Errno) = run.Script

	var _ func(api.Linked) []api.Unit = modrun.Units
	var _ func(api.Linked, []string, int) api.Outcome = modrun.Run

	var _ func(*vfs.Table, string) (api.Linked, api.Built) = build.Linked
	var _ func(*vfs.Table, string) api.Built = build.Build
	var _ func(api.Built, []string, int) (api.Outcome, api.Errno) = build.Run

	var _ func() *desk.World = desk.New
	var _ func(*desk.World, api.Step) api.Told = (*desk.World).Do
	var _ func(*desk.World) []api.File = (*desk.World).Files
	var _ func(*desk.World) api.Built = (*desk.World).Last
	var _ func([]api.Step) ([]api.Told, api.Errno) = desk.Play
}
