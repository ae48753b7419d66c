"""The rules of ../shared/LANGUAGE.md that can be seen in the syntax of the files."""

import ast
import builtins
import io
import pathlib
import re
import tokenize
import unittest

PACKAGE = pathlib.Path(__file__).resolve().parent.parent / "stillroom"

BUILTINS = """len range enumerate zip min max sum abs sorted reversed int str bool list tuple dict set isinstance ord
repr any all divmod pow ValueError iter next map""".split()

METHODS = """append clear copy count endswith extend find get index insert isalnum isalpha isdigit islower isspace
isupper items join keys ljust lower lstrip partition pop remove replace reverse rfind rjust rpartition rsplit rstrip
setdefault split splitlines startswith strip update upper values zfill bit_length add discard sort""".split()

NEVER_NAMES = """register mro elements open input law version_info with_traceback add_note attrgetter breakpoint
builtins compile copyright credits delattr dir eval exec exit gc globals help id importlib license locals methodcaller
os quit super type vars sys _cold _tuplegetter _outside _record _written_out _member_names""".split()

NEVER_BEGINNINGS = (
    "_wall", "_pe_", "_dcw_", "_enum_", "_cm_", "_twin_re_", "_lay_", "_law_", "_stub_", "_sre", "_WallAttr",
)

NEVER_WORDS = """type typing typing_extensions enum Enum IntEnum StrEnum Flag IntFlag Generic Protocol ABC ABCMeta
namedtuple NamedTuple TypedDict TYPE_CHECKING abstractmethod""".split()

BARRED = (
    ast.Global, ast.AsyncFunctionDef, ast.Await, ast.AsyncFor, ast.AsyncWith, ast.Div, ast.Starred, ast.Lambda,
    ast.MatMult, ast.Import, ast.AnnAssign, ast.GeneratorExp, ast.Yield, ast.YieldFrom, ast.NamedExpr, ast.Try,
    ast.With, ast.Match, ast.Delete, ast.Nonlocal, ast.Set, ast.IfExp,
)
# The package does not need the others, though the language has them in narrow forms.
ALLOWED_NOW = (ast.IfExp, ast.Try)

FILES = sorted(PACKAGE.rglob("*"))
SOURCES = {path.stem: path.read_text() for path in FILES if path.suffix == ".py"}
TREES = {name: ast.parse(text) for name, text in SOURCES.items()}


def functions(tree):
    return [node for node in ast.walk(tree) if isinstance(node, ast.FunctionDef)]


def bound_names(function):
    """Parameters, and all names that are assigned."""
    named = [argument.arg for argument in ast.walk(function.args) if isinstance(argument, ast.arg)]
    names = [node for node in ast.walk(function) if isinstance(node, ast.Name)]
    return named + [node.id for node in names if isinstance(node.ctx, ast.Store)]


def module_names(tree):
    found = []
    for node in tree.body:
        if isinstance(node, ast.ImportFrom):
            found += [alias.name for alias in node.names]
        elif isinstance(node, (ast.FunctionDef, ast.ClassDef)):
            found.append(node.name)
        elif isinstance(node, ast.Assign):
            found += [target.id for target in node.targets]
    return found


def imports(tree):
    found = [node for node in tree.body if isinstance(node, ast.ImportFrom)]
    return {node.module.split(".")[1]: [alias.name for alias in node.names] for node in found}


def own_methods():
    """The names of methods and attributes that the classes of the package define."""
    found = set()
    for tree in TREES.values():
        for node in [inner for inner in ast.walk(tree) if isinstance(inner, ast.ClassDef)]:
            found |= {function.name for function in functions(node)}
            targets = [inner for inner in ast.walk(node) if isinstance(inner, ast.Attribute)]
            found |= {inner.attr for inner in targets if isinstance(inner.ctx, ast.Store) and inner.value.id == "self"}
    return found


class Language(unittest.TestCase):
    def test_files(self):
        for path in FILES:
            if "__pycache__" in path.parts:
                continue
            self.assertEqual((path.suffix, path.parent), (".py", PACKAGE), path)
            self.assertRegex(path.stem, r"^([a-z][a-z0-9_]*|__init__)$")
            self.assertFalse(path.stem != "__init__" and hasattr(builtins, path.stem), path)
        self.assertIn("__init__", SOURCES)

    def test_sizes(self):
        for name, text in SOURCES.items():
            lines = text.split("\n")
            self.assertLessEqual(len(lines), 399, name)
            for line in lines:
                self.assertLessEqual(len(line), 120, name)
            for function in functions(TREES[name]):
                self.assertLessEqual(function.end_lineno - function.lineno + 1, 40, (name, function.name))

    def test_characters(self):
        for name, text in SOURCES.items():
            self.assertRegex(text, r"\A[ -~\n]*\Z", name)

    def test_module_level(self):
        for name, tree in TREES.items():
            for at, node in enumerate(tree.body):
                if isinstance(node, ast.Expr):
                    self.assertEqual(at, 0, name)
                    self.assertIsInstance(node.value.value, str)
                elif isinstance(node, ast.Assign):
                    self.assertEqual(len(node.targets), 1, name)
                    self.assertIsInstance(node.targets[0], ast.Name, name)
                    ast.literal_eval(node.value)
                else:
                    self.assertIsInstance(node, (ast.ImportFrom, ast.FunctionDef, ast.ClassDef), name)
            names = module_names(tree)
            self.assertEqual(len(names), len(set(names)), name)

    def test_imports(self):
        for name, tree in TREES.items():
            level = [node for node in ast.walk(tree) if isinstance(node, ast.ImportFrom)]
            for node in level:
                self.assertIn(node, tree.body, name)
                self.assertEqual(node.level, 0, name)
                self.assertTrue(node.module.startswith("stillroom."), name)
                for alias in node.names:
                    self.assertIsNone(alias.asname, name)
            for module, names in imports(tree).items():
                target = TREES[module]
                own = set(module_names(target)) - {word for words in imports(target).values() for word in words}
                self.assertLessEqual(set(names), own, name)

    def test_no_ring_of_imports(self):
        left = {name: set(imports(tree)) for name, tree in TREES.items()}
        while left:
            free = [name for name in left if not left[name] & set(left)]
            self.assertTrue(free, left)
            for name in free:
                del left[name]

    def test_every_import_is_used(self):
        for name, tree in TREES.items():
            used = {node.id for node in ast.walk(tree) if isinstance(node, ast.Name)}
            for words in imports(tree).values():
                self.assertLessEqual(set(words), used, name)

    def test_statements_and_expressions(self):
        barred = tuple(node for node in BARRED if node not in ALLOWED_NOW)
        for name, tree in TREES.items():
            for node in ast.walk(tree):
                self.assertNotIsInstance(node, barred, name)
                if isinstance(node, (ast.FunctionDef, ast.ClassDef)):
                    self.assertEqual(node.decorator_list, [], name)
                if isinstance(node, ast.Constant):
                    self.assertIsInstance(node.value, (int, str, type(None)), name)
                if isinstance(node, ast.Compare):
                    for sign, side in zip(node.ops, node.comparators):
                        if isinstance(sign, (ast.Is, ast.IsNot)):
                            self.assertIsInstance(side, ast.Constant, name)
                if isinstance(node, ast.BinOp) and isinstance(node.op, ast.Pow):
                    self.assertIsInstance(node.right, ast.Constant, name)

    def test_names(self):
        for name, tree in TREES.items():
            own = module_names(tree)
            outer = [word for words in imports(tree).values() for word in words]
            outer += [node.name for node in tree.body if isinstance(node, ast.ClassDef)]
            for word in own:
                self.check_name(word, name)
            for function in functions(tree):
                for word in bound_names(function):
                    self.check_name(word, name)
                    self.assertNotIn(word, outer, (name, function.name))
                called = [node.func for node in ast.walk(function) if isinstance(node, ast.Call)]
                for word in [node.id for node in called if isinstance(node, ast.Name)]:
                    self.assertIn(word, own + bound_names(function) + BUILTINS, (name, function.name))

    def check_name(self, word, where):
        self.assertRegex(word, r"^(_|_?[A-Za-z][A-Za-z0-9_]*)$", where)
        self.assertNotIn(re.sub("[0-9_]+$", "", word), NEVER_NAMES, where)
        self.assertFalse(word.startswith(NEVER_BEGINNINGS), (where, word))
        self.assertFalse(hasattr(builtins, word), (where, word))

    def test_methods(self):
        own = own_methods()
        for name, tree in TREES.items():
            for node in ast.walk(tree):
                if isinstance(node, ast.Attribute):
                    self.assertIn(node.attr, METHODS + sorted(own), name)

    def test_own_methods(self):
        for word in own_methods() - {"__init__"}:
            self.assertRegex(word, "^_?[a-z][a-z0-9_]*$")
            self.assertFalse(word.startswith(NEVER_BEGINNINGS), word)
            for value in ("", 0, [], {}, set(), b""):
                self.assertFalse(hasattr(value, word), word)
            self.assertNotIn(word, NEVER_NAMES)
            self.assertNotIn(word, BUILTINS)

    def test_handlers(self):
        errors = {"StillroomError"}
        for _ in range(3):
            for tree in TREES.values():
                for node in [inner for inner in tree.body if isinstance(inner, ast.ClassDef)]:
                    if errors & {base.id for base in node.bases}:
                        errors.add(node.name)
        for name, tree in TREES.items():
            for node in ast.walk(tree):
                if isinstance(node, ast.Try):
                    self.assertEqual(node.finalbody, [], name)
                if isinstance(node, ast.ExceptHandler):
                    self.assertIsInstance(node.type, ast.Name, name)
                    self.assertIn(node.type.id, errors, name)
                if isinstance(node, ast.Raise):
                    self.assertIsInstance(node.exc, ast.Call, name)
                    self.assertIn(node.exc.func.id, errors, name)

    def test_strings(self):
        for name, tree in TREES.items():
            for node in ast.walk(tree):
                if isinstance(node, ast.Constant) and isinstance(node.value, str):
                    self.assertNotIn("%", node.value, name)
                    self.assertRegex(node.value, r"\A[ -~\n\t]*\Z", name)
                    self.assertFalse(node.value.endswith(("._", ".__")), name)
                    self.assertFalse(node.value.startswith("__"), name)
            for token in tokenize.generate_tokens(io.StringIO(SOURCES[name]).readline):
                if token.type == tokenize.STRING:
                    self.assertNotRegex(re.sub(r"\\[nt\\\"']", "", token.string), r"\\", name)

    def test_words(self):
        for name, text in SOURCES.items():
            self.assertNotRegex(text, "_wall|_WallAttr|dataclass|overload|contextmanager", name)
            for token in tokenize.generate_tokens(io.StringIO(text).readline):
                if token.type == tokenize.NAME:
                    self.assertNotIn(token.string, NEVER_WORDS, name)

    def test_what_a_loop_goes_over_stays(self):
        for name, tree in TREES.items():
            for loop in ast.walk(tree):
                if not isinstance(loop, ast.For):
                    continue
                over = {node.id for node in ast.walk(loop.iter) if isinstance(node, ast.Name)}
                for node in [inner for row in loop.body for inner in ast.walk(row)]:
                    if isinstance(node, ast.Attribute) and isinstance(node.value, ast.Name):
                        changes = node.attr in "append extend insert pop remove clear reverse sort update".split()
                        self.assertFalse(changes and node.value.id in over, (name, loop.lineno))
                    if isinstance(node, ast.Subscript) and isinstance(node.ctx, ast.Store):
                        self.assertNotIn(getattr(node.value, "id", ""), over, (name, loop.lineno))

    def test_no_function_changes_a_list_of_its_module(self):
        for name, tree in TREES.items():
            for node in tree.body:
                if isinstance(node, ast.Assign):
                    self.assertNotIsInstance(node.value, (ast.List, ast.Set), name)


if __name__ == "__main__":
    unittest.main()
