"""The rules of LANGUAGE.md that can be read off the package's files."""

import ast
import builtins
import pathlib
import re
import unittest

PACKAGE = pathlib.Path(__file__).resolve().parent.parent / "singlechange"
FILE_NAME = re.compile(r"[a-z][a-z0-9_]*\.py|__init__\.py|__main__\.py")
PLAIN_NAME = re.compile(r"[A-Za-z][A-Za-z0-9_]*")
BARRED_WORDS = re.compile(
    r"\b(type|typing|typing_extensions|enum|Enum|IntEnum|StrEnum|Flag|IntFlag|Generic|Protocol|ABC|ABCMeta"
    r"|namedtuple|NamedTuple|TypedDict|TYPE_CHECKING|abstractmethod)\b|dataclass|overload|contextmanager")
BARRED_NAMES = set(
    "register mro elements open input version_info with_traceback add_note attrgetter breakpoint builtins compile "
    "copyright credits delattr dir eval exec exit gc getattr globals hasattr help id importlib license locals "
    "methodcaller os quit setattr super type vars sys chr print".split())
OWN_NAMES_OF_PYTHON = set(
    "len range enumerate zip min max sum abs sorted reversed int str bool list tuple dict set frozenset isinstance "
    "ord repr any all divmod Exception ValueError TypeError KeyError IndexError LookupError ZeroDivisionError "
    "ArithmeticError OverflowError RuntimeError NotImplementedError AttributeError StopIteration".split())
METHODS_OF_PYTHON = set(
    "append clear copy count endswith extend find get index insert isalnum isalpha isdigit islower isspace isupper "
    "items join keys ljust lower lstrip partition pop remove replace reverse rfind rjust rpartition rsplit rstrip "
    "setdefault split splitlines startswith strip update upper values zfill bit_length".split())
ALLOWED_FORMS = (
    ast.Module, ast.FunctionDef, ast.arguments, ast.arg, ast.ImportFrom, ast.alias, ast.Expr, ast.Assign,
    ast.AugAssign, ast.If, ast.While, ast.For, ast.Return, ast.Break, ast.Continue, ast.Pass, ast.Constant,
    ast.Name, ast.expr_context, ast.List, ast.Tuple, ast.Dict, ast.BinOp, ast.UnaryOp, ast.BoolOp, ast.Compare,
    ast.operator, ast.unaryop, ast.boolop, ast.cmpop, ast.IfExp, ast.Call, ast.keyword, ast.Attribute,
    ast.Subscript, ast.Slice, ast.ListComp, ast.comprehension, ast.Lambda,
)
WALKED_AT_ONCE = ("zip", "enumerate", "reversed", "range")
WALKERS = ("list", "tuple", "dict", "sorted", "sum", "any", "all", "enumerate", "zip", "min", "max")
TOP_FORMS = (ast.Expr, ast.ImportFrom, ast.FunctionDef, ast.Assign)


def package_files():
    return sorted(path for path in PACKAGE.rglob("*") if "__pycache__" not in path.parts)


def trees():
    return [(path.name, ast.parse(path.read_text("utf-8"))) for path in package_files()]


def nodes(kinds):
    return [(name, node) for name, tree in trees() for node in ast.walk(tree) if isinstance(node, kinds)]


def bound_names(tree):
    """Every name that a file gives a meaning: defs, parameters, assigned names."""
    found = []
    for node in ast.walk(tree):
        if isinstance(node, ast.FunctionDef):
            found.append(node.name)
        if isinstance(node, ast.arg):
            found.append(node.arg)
        if isinstance(node, ast.Name) and isinstance(node.ctx, ast.Store):
            found.append(node.id)
    return found


def called_name(node):
    return node.func.id if isinstance(node, ast.Call) and isinstance(node.func, ast.Name) else None


def walked_parts(tree):
    """What stands behind the `in` of a walk, or first in a call that walks it."""
    found = []
    for node in ast.walk(tree):
        if isinstance(node, (ast.For, ast.comprehension)):
            found.append(node.iter)
        if called_name(node) in WALKERS:
            found = found + node.args[:1]
    return found


class Files(unittest.TestCase):
    def test_only_plain_python_files(self):
        self.assertIn(PACKAGE / "__init__.py", package_files())
        for path in package_files():
            self.assertTrue(path.is_file() and FILE_NAME.fullmatch(path.name), path)

    def test_signs_and_sizes(self):
        for path in package_files():
            lines = path.read_bytes().decode("ascii").split("\n")
            self.assertLessEqual(len(lines), 400, path)
            for line in lines:
                self.assertLessEqual(len(line), 120, path)
                self.assertTrue(all(" " <= sign <= "~" for sign in line), (path, line))

    def test_barred_words(self):
        for path in package_files():
            self.assertIsNone(BARRED_WORDS.search(path.read_text("utf-8")), path)


class Forms(unittest.TestCase):
    def test_only_allowed_forms(self):
        for name, node in nodes(ast.AST):
            self.assertIsInstance(node, ALLOWED_FORMS, (name, ast.dump(node)))
            self.assertNotIsInstance(node, (ast.Div, ast.MatMult), name)

    def test_top_of_each_file(self):
        for name, tree in trees():
            for node in tree.body:
                self.assertIsInstance(node, TOP_FORMS, name)
                if isinstance(node, ast.Expr):
                    self.assertIsInstance(node.value, ast.Constant, name)
            names = [node.name for node in tree.body if isinstance(node, ast.FunctionDef)]
            names += [node.targets[0].id for node in tree.body if isinstance(node, ast.Assign)]
            self.assertEqual(len(names), len(set(names)), name)

    def test_functions(self):
        for name, node in nodes(ast.FunctionDef):
            self.assertLessEqual(node.end_lineno - node.lineno + 1, 40, (name, node.name))
            self.assertEqual(node.decorator_list, [], (name, node.name))
            plain = node.args
            self.assertEqual([plain.vararg, plain.kwarg, plain.kwonlyargs, plain.posonlyargs], [None, None, [], []])

    def test_imports_are_the_packages_own(self):
        for name, node in nodes(ast.ImportFrom):
            self.assertEqual(node.level, 0, name)
            self.assertTrue(node.module.startswith("singlechange."), (name, node.module))
            self.assertNotIn("*", [alias.name for alias in node.names], name)

    def test_statements_and_values(self):
        for name, node in nodes(ast.Assign):
            self.assertEqual(len(node.targets), 1, name)
        for name, node in nodes((ast.For, ast.While)):
            self.assertEqual(node.orelse, [], name)
        for name, node in nodes(ast.Constant):
            self.assertIn(type(node.value), (int, str, bool, type(None)), name)
        for name, node in nodes(ast.BinOp):
            if isinstance(node.op, ast.Pow):
                self.assertIsInstance(node.right, ast.Constant, name)
                self.assertIn(node.right.value, range(65), name)

    def test_walked_at_once(self):
        for name, tree in trees():
            walked = walked_parts(tree)
            for node in ast.walk(tree):
                if called_name(node) in WALKED_AT_ONCE:
                    self.assertIn(node, walked, (name, node.lineno))


class Names(unittest.TestCase):
    def test_own_names_are_plain(self):
        for name, tree in trees():
            for bound in bound_names(tree):
                self.assertTrue(PLAIN_NAME.fullmatch(bound), (name, bound))
                self.assertFalse(hasattr(builtins, bound), (name, bound))
                self.assertNotIn(bound, BARRED_NAMES, name)

    def test_names_of_python(self):
        for name, tree in trees():
            bound = set(bound_names(tree))
            imported = {alias.name for node in ast.walk(tree) if isinstance(node, ast.ImportFrom) for alias in node.names}
            for node in ast.walk(tree):
                if isinstance(node, ast.Name) and node.id not in bound | imported:
                    self.assertIn(node.id, OWN_NAMES_OF_PYTHON, name)

    def test_methods_of_python(self):
        for name, node in nodes(ast.Attribute):
            self.assertIn(node.attr, METHODS_OF_PYTHON, name)


if __name__ == "__main__":
    unittest.main()
