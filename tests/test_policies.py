import itertools
import re
import unittest

from stillroom.facts import is_sound
from stillroom.policies import holds, is_policy, judge, matches
from stillroom.signs import KINDS
from support import check_copies, drawn
from told import ACT_KINDS, GREATEST, SIGNS, VERDICTS, drawn_facts, drawn_policy, facts

COMPARED = {
    "<": lambda a, b: a < b, "<=": lambda a, b: a <= b, "=": lambda a, b: a == b, ">=": lambda a, b: a >= b,
    ">": lambda a, b: a > b,
}


def of_term(body, negated=False):
    """A policy of one rule with one term."""
    return (("drop", ((negated, body),)),)


class Forms(unittest.TestCase):
    def check(self, is_right, *values):
        for value in values:
            self.assertIs(is_policy(value), is_right, value)

    def check_bodies(self, is_right, *bodies):
        for body in bodies:
            self.check(is_right, of_term(body), of_term(body, True))

    def test_rules(self):
        rule = ("drop", ())
        for count in range(7):
            self.check(count <= 4, (rule,) * count)
        self.check(True, *[((verdict, ()),) for verdict in VERDICTS])
        self.check(False, (("", ()),), (("Drop", ()),), (("keep", ()),), ((None, ()),), ((5, ()),), ((b"drop", ()),),
                   ((["drop"], ()),))
        self.check(False, (("drop",),), (("drop", (), ()),), (["drop", ()],), ("drop",), (None,), (5,), ((),),
                   (("drop", []),), (("drop", None),), (("drop", {}),), (("drop", "is"),))

    def test_terms(self):
        term = (False, ("is", "folio"))
        for count in range(6):
            self.check(count <= 3, (("drop", (term,) * count),))
        for other in (None, 5, "is", (), (False,), (False, ("is", "folio"), 1), [False, ("is", "folio")],
                      (0, ("is", "folio")), (1, ("is", "folio")), (None, ("is", "folio")), ("", ("is", "folio")),
                      ("not", ("is", "folio")), (False, None), (False, "is"), (False, ["is", "folio"]), (False, ()),
                      (False, 5), ("is", "folio")):
            self.check(False, (("drop", (other,)),), (("drop", (term, other)),))

    def test_numbers(self):
        for word, most in GREATEST.items():
            for sign in SIGNS:
                self.check_bodies(True, *[(word, sign, number) for number in (0, 1, most - 1, most)])
                self.check_bodies(False,
                                  *[(word, sign,
                                     number) for number in (-1, most + 1, True, False, None, "5", (5,), [5])])
            for sign in ("", "==", "<>", "!=", "=>", "=<", " <", None, 5, ("<",), ["<"]):
                self.check_bodies(False, (word, sign, 5))
            self.check_bodies(False, (word, "<"), (word, 5), (word,), (word, "<", 5, 5), [word, "<", 5])
        self.check_bodies(False, ("sizes", "<", 5), ("", "<", 5), (None, "<", 5), (5, "<", 5), ("is", "<", 5),
                          (["size"], "<", 5))

    def test_kinds(self):
        for kind in KINDS:
            self.check_bodies(True, ("is", kind), ("could", kind))
        self.check_bodies(True, ("is", ""))
        # The empty string is no kind that a list could be.
        self.check_bodies(False, ("could", ""))
        for word in ("is", "could"):
            self.check_bodies(False,
                              *[(word,
                                 kind) for kind in ("none", "Folio", "open", None, 5, ("folio",), ["folio"], b"folio")])
            self.check_bodies(False, (word,), (word, "folio", "crate"), [word, "folio"])

    def test_acts(self):
        for kind in ACT_KINDS:
            self.check_bodies(True, ("act", kind))
        self.check_bodies(False,
                          *[("act",
                             kind) for kind in ("", "acts", "folio", "Open", None, 5, ("open",), ["open"], b"open")])
        self.check_bodies(False, ("act",), ("act", "open", "file"), ("actor", "open"))

    def test_patterns(self):
        self.check_bodies(True, ("name", ()), ("name", (42,)), ("name", (0, 255)), ("name", (97,) * 20),
                          ("name", (42,) * 20))
        self.check_bodies(False, *[("name", pattern) for pattern in (
            (97,) * 21, (42,) * 21, [], [97], "a", b"a", None, 5, (256,), (-1,), (True,), ("a",), (97, None), ((97,),),
        )])
        self.check_bodies(False, ("name",), ("name", (), ()), ("names", ()))

    def test_values_of_every_kind(self):
        self.check(False, None, 5, True, "drop", b"drop", [], {}, [("drop", ())], ("drop", ()), (("drop", ()), None),
                   1.5, object())
        self.check(True, ())

    def test_copies(self):
        check_copies(self, is_policy, of_term(("name", (97,))))
        check_copies(self, is_policy, [("drop", [])])


class Terms(unittest.TestCase):
    def check(self, body, found, is_held):
        self.assertTrue(is_policy(of_term(body)))
        self.assertTrue(is_sound(found))
        self.assertIs(holds((False, body), found), is_held, (body, found))
        self.assertIs(holds((True, body), found), not is_held, (body, found))

    def test_numbers(self):
        for sign in SIGNS:
            for number, size in itertools.product((0, 1, 10, 2147483646, 2147483647), repeat=2):
                self.check(("size", sign, number), facts(size=size), COMPARED[sign](size, number))
            for number, count in itertools.product((0, 1, 7, 8, 9, 100), range(9)):
                self.check(("pages", sign, number), facts(pages=count), COMPARED[sign](count, number))
            for number, count in itertools.product((0, 1, 4, 5, 100), range(5)):
                self.check(("depth", sign, number), facts(depth=count), COMPARED[sign](count, number))
            for number, count in itertools.product((0, 1, 2, 99, 100), (0, 1, 2, 3, 99, 100, 101, 1000)):
                found = facts(acts=("link",) * count)
                self.check(("acts", sign, number), found, COMPARED[sign](count, number))

    def test_each_number_has_its_own_word(self):
        found = facts(size=1, pages=2, acts=("open",) * 3, depth=4)
        for at, word in enumerate(("size", "pages", "acts", "depth")):
            for number in range(6):
                self.check((word, "=", number), found, number == at + 1)

    def test_kinds(self):
        for kind in KINDS:
            for other in KINDS:
                self.check(("is", other), facts(kinds=(kind,)), other == kind)
                self.check(("could", other), facts(kinds=(kind,)), other == kind)
            self.check(("is", ""), facts(kinds=(kind,)), False)
            self.check(("is", kind), facts(), False)
            self.check(("could", kind), facts(), False)
        self.check(("is", ""), facts(), True)

    def test_several_kinds(self):
        found = facts(kinds=("film", "folio", "crate"))
        for kind in KINDS:
            self.check(("is", kind), found, kind == "film")
            self.check(("could", kind), found, kind in ("film", "folio", "crate"))
        for kind in ("folio", "crate"):
            self.check(("is", "folio"), facts(kind=kind, kinds=("folio", "crate")), kind == "folio")
            self.check(("is", "crate"), facts(kind=kind, kinds=("folio", "crate")), kind == "crate")

    def test_acts(self):
        for kind in ACT_KINDS:
            self.check(("act", kind), facts(), False)
            for other in ACT_KINDS:
                self.check(("act", kind), facts(acts=(other,)), kind == other)
                self.check(("act", kind), facts(acts=(other, "form", other)), kind in (other, "form"))
            self.check(("act", kind), facts(acts=ACT_KINDS), True)

    def test_names(self):
        self.check(("name", (97, 42)), facts(name=(97, 98)), True)
        self.check(("name", (97, 42)), facts(name=(98, 97)), False)
        self.check(("name", ()), facts(), True)
        self.check(("name", ()), facts(name=(97,)), False)

    def test_copies(self):
        check_copies(self, holds, (True, ("act", "open")), facts(acts=("open",)))


class Matching(unittest.TestCase):
    def check(self, pattern, name, is_matched):
        self.assertIs(matches(tuple(pattern.encode("latin-1")), tuple(name.encode("latin-1"))), is_matched,
                      (pattern, name))

    def test_without_stars(self):
        for pattern, name in (("", ""), ("a", "a"), ("abc", "abc"), ("a.b", "a.b"), ("\0\xff", "\0\xff"), ("?", "?"),
                              ("[a]", "[a]")):
            self.check(pattern, name, True)
        for pattern, name in (("", "a"), ("a", ""), ("a", "b"), ("a", "aa"), ("aa", "a"), ("abc", "abd"), ("a", "A"),
                              ("?", "a"), (".", "a"), ("[a]", "a")):
            self.check(pattern, name, False)

    def test_stars_alone(self):
        for pattern in ("*", "**", "*" * 20):
            for name in ("", "a", "abc", "*", "\0\xff\n", "x" * 300):
                self.check(pattern, name, True)

    def test_stars(self):
        for pattern, name in (("a*", "a"), ("a*", "abc"), ("*a", "a"), ("*a", "bca"), ("*a", "aaa"), ("a*b", "ab"),
                              ("a*b", "axxb"), ("a*b", "abab"), ("*a*", "a"), ("*a*", "xax"), ("a**b", "ab"),
                              ("a**b", "axb"), ("*a*b*", "xaxbx"), ("a*a", "aa"), ("*ab", "aab"), ("*aab", "aaaab"),
                              ("a*b*c", "abbcbc"), ("*.txt", "a.txt.txt")):
            self.check(pattern, name, True)
        for pattern, name in (("a*", ""), ("a*", "ba"), ("*a", ""), ("*a", "ab"), ("a*a", "a"), ("a*b", "a"),
                              ("a*b", "abc"), ("*a*", "bcd"), ("a**b", "a"), ("*a*b*", "ba"), ("a*b*c", "acb"),
                              ("*ab", "aba"), ("*.txt", "txt")):
            self.check(pattern, name, False)

    def test_a_star_in_a_name(self):
        self.check("*", "*", True)
        self.check("a*", "a*", True)
        self.check("a*b", "a*b", True)
        self.check("a", "*", False)
        self.check("", "*", False)

    def test_drawn_patterns(self):
        source = drawn(81)
        for _ in range(5000):
            pattern = "".join(source.choice("*ab*\n") for _ in range(source.randint(0, 8)))
            name = "".join(source.choice("ab*\n") for _ in range(source.randint(0, 12)))
            expected = "".join(".*" if sign == "*" else re.escape(sign) for sign in pattern)
            self.check(pattern, name, bool(re.fullmatch(expected, name, re.DOTALL)))

    def test_long_names(self):
        self.check("*a*a*a*a*a*a*a*a*a*b", "a" * 3000, False)
        self.check("*a*a*a*a*a*a*a*a*a*b", "a" * 3000 + "b", True)

    def test_copies(self):
        check_copies(self, matches, (97, 42), (97, 98))


class Judging(unittest.TestCase):
    def test_no_rule(self):
        self.assertEqual(judge((), facts()), ("hold", -1))
        self.assertEqual(judge((("drop", ((False, ("is", "folio")),)),), facts()), ("hold", -1))

    def test_a_rule_without_terms(self):
        for verdict in VERDICTS:
            self.assertEqual(judge(((verdict, ()),), facts()), (verdict, 0))

    def test_the_first_rule_decides(self):
        policy = (
            ("drop", ((False, ("act", "script")), (False, ("depth", ">", 0)))), ("clean", ((True, ("acts", ">", 2)),)),
            ("hold", ((False, ("is", "folio")),)), ("drop", ()),
        )
        for found, expected in (
            (facts(acts=("script",), depth=1), ("drop", 0)), (facts(acts=("script",)), ("clean", 1)),
            (facts(depth=1), ("clean", 1)), (facts(acts=("link",) * 3, kinds=("folio",)), ("hold", 2)),
            (facts(acts=("link",) * 3), ("drop", 3)), (facts(acts=("link",) * 3, depth=2), ("drop", 3)),
            (facts(acts=("script",) * 3, depth=2), ("drop", 0)),
        ):
            self.assertEqual(judge(policy, found), expected)

    def test_all_terms_must_hold(self):
        terms = tuple((False, ("pages", ">", number)) for number in (1, 3, 5))
        for count in range(9):
            expected = ("drop", 0) if count > 5 else ("hold", -1)
            self.assertEqual(judge((("drop", terms),), facts(pages=count)), expected)

    def test_four_rules(self):
        policy = tuple((VERDICTS[at % 3], ((False, ("pages", "=", at)),)) for at in range(4))
        for at in range(4):
            self.assertEqual(judge(policy, facts(pages=at)), (VERDICTS[at % 3], at))
        self.assertEqual(judge(policy, facts(pages=4)), ("hold", -1))

    def test_drawn_policies(self):
        source = drawn(82)
        for _ in range(1000):
            policy, found = drawn_policy(source), drawn_facts(source)
            self.assertTrue(is_policy(policy) and is_sound(found))
            deciding = [at for at, rule in enumerate(policy) if all(holds(term, found) for term in rule[1])]
            expected = (policy[deciding[0]][0], deciding[0]) if deciding else ("hold", -1)
            self.assertEqual(judge(policy, found), expected)

    def test_copies(self):
        check_copies(self, judge, (("drop", ((False, ("is", "folio")),)), ("clean", ())), facts())


if __name__ == "__main__":
    unittest.main()
