import itertools
import re
import unittest

from stillroom.deciding import difference, example, shadowed
from stillroom.errors import Malformed, NotThere, TooMuch
from stillroom.facts import is_sound
from stillroom.policies import holds, is_policy, judge, read_policy
from stillroom.signs import KINDS
from support import check_copies, drawn
from told import ACT_KINDS, drawn_policy, facts

TOP = 2147483647


def named(*patterns, verdict="drop"):
    """A policy whose rules have up to three of these patterns each."""
    terms = [(False, ("name", tuple(pattern.encode("latin-1")))) for pattern in patterns]
    return tuple((verdict, tuple(terms[at:at + 3])) for at in range(0, len(terms), 3))


class Deciding(unittest.TestCase):
    def check_told(self, found):
        self.assertTrue(is_sound(found))
        self.assertLessEqual(len(found[5]), 1000)
        self.assertLessEqual(len(found[0]), 100000)

    def check_examples(self, policy):
        """Examples are decided as asked; returns the indexes without one."""
        without = []
        for index in range(-1, len(policy)):
            found = example(policy, index)
            if found is None:
                without.append(index)
            else:
                self.check_told(found)
                self.assertEqual(judge(policy, found)[1], index)
        self.assertEqual(shadowed(policy), [index for index in without if index >= 0])
        self.check_difference(policy, policy, False)
        for index in shadowed(policy):
            self.check_difference(policy, policy[:index] + policy[index + 1:], False)
        return without

    def check_difference(self, first, second, is_one):
        for one, other in ((first, second), (second, first)):
            found = difference(one, other)
            self.assertEqual(found is not None, is_one, (one, other))
            if found is not None:
                self.check_told(found)
                self.assertNotEqual(judge(one, found)[0], judge(other, found)[0])

    def check(self, text, *without):
        """The rules of a policy that decide nothing; -1 stands for no rule."""
        policy = read_policy(text)
        self.assertEqual(self.check_examples(policy), list(without), text)


class Rules(Deciding):
    def test_no_rules(self):
        self.check("")
        self.assertEqual(shadowed(()), [])
        self.assertEqual(judge((), example((), -1)), ("hold", -1))

    def test_behind_a_rule_without_terms(self):
        self.check("drop", -1)
        self.check("drop\nclean", -1, 1)
        self.check("drop if is folio\nclean\nhold\ndrop if is folio", -1, 2, 3)

    def test_the_same_rule_again(self):
        self.check("drop if is folio\nclean if is folio", 1)
        self.check("drop if pages > 1\nclean if pages > 2\nhold if pages > 0", 1)
        self.check("drop if pages > 1 and act open\nclean if pages > 2\nhold if pages > 2 and act open", 2)

    def test_covered_by_several_others_together(self):
        self.check("drop if pages < 3\nhold if pages > 5\nclean if pages >= 3 and pages <= 5\ndrop", -1, 3)
        self.check("drop if pages < 3\nhold if pages > 5\ndrop", -1)
        self.check("drop if act open\nhold if not act open\nclean if is folio", -1, 2)
        self.check("drop if depth < 2\nhold if depth = 2\nclean if depth > 2\ndrop if is none", -1, 3)
        self.check("drop if depth < 2\nhold if depth = 2\nclean if depth > 3\ndrop if is none")
        self.check("drop if depth < 2\nhold if depth = 2\nclean if depth > 3\ndrop", -1)

    def test_covered_in_two_parts_of_the_facts(self):
        self.check("drop if act open and pages > 3\nhold if not act open\nclean if pages <= 3\ndrop", -1, 3)
        self.check("drop if act open and pages > 3\nhold if not act open\nclean if pages < 3\ndrop", -1)

    def test_contradictions(self):
        for terms in (
            "is folio and is crate", "is folio and not is folio", "could still and could picture",
            "is still and not could still", "act open and acts = 0", "act open and act file and acts < 2",
            "acts = 1 and acts = 2", "pages > 3 and pages < 4", "depth >= 3 and depth <= 2", "size = 5 and size > 5",
            "name \"a\" and name \"b\"", "name \"a*\" and name \"b*\"", "name \"\" and name \"a*\"",
            "act form and not act form", "size < 5 and not size < 6", "not name \"*\"", "is none and could crate",
            "not size >= 0",
        ):
            self.check(f"drop if {terms}", 0)
            self.check(f"clean if is folio\ndrop if {terms}\nhold", -1, 1)

    def test_drawn_policies(self):
        source = drawn(84)
        for _ in range(400):
            policy = drawn_policy(source)
            self.assertEqual(self.check_examples(policy), plain_without(policy))

    def test_drawn_policies_of_single_words(self):
        # Many terms of the same part of the facts, so that they cover each other.
        source = drawn(85)
        policies = []
        while len(policies) < 300:
            words = source.choice((("acts", "act"), ("is", "could"), ("name",), ("size", "pages"), ("depth", "act")))
            rules = drawn_policy(source)
            policy = tuple((verdict, tuple(term for term in terms if term[1][0] in words)) for verdict, terms in rules)
            if sum(len(terms) for _, terms in policy) >= 3:
                policies.append(policy)
        for policy in policies:
            self.assertEqual(self.check_examples(policy), plain_without(policy), policy)


NAMES = ["".join(letters) for count in range(6) for letters in itertools.product("abx", repeat=count)]
COUNTS = (0, 1, 2, 3, 4, 5, 6, 7, 99, 100, 101)


def act_lists():
    found = [()]
    for count in range(1, 7):
        for kinds in itertools.combinations(ACT_KINDS, count):
            found += [kinds + kinds[:1] * (many - count) for many in COUNTS if many >= count]
    return found


PARTS = {
    "size": [0, 1, 2, 9, 10, 11, TOP - 1, TOP], "pages": list(range(9)), "depth": list(range(5)), "acts": act_lists(),
    "kinds": [(kind, kinds) for single in [()] + [(kind,) for kind in KINDS[:4]]
              for kinds in (single, single + ("folio",), single + ("crate",), single + ("folio", "crate"))
              for kind in (single or kinds or ("",))],
}


def plain_rows(bodies):
    """For each part of facts, the different rows of what holds of these bodies."""
    rows = []
    for part, choices in PARTS.items():
        words = {"acts": ("acts", "act"), "kinds": ("is", "could")}.get(part, (part,))
        own = [body for body in bodies if body[0] in words]
        found = set()
        for choice in choices:
            told = dict(zip(("kind", "kinds"), choice)) if part == "kinds" else {part: choice}
            found.add(tuple((body, holds((False, body), facts(**told))) for body in own))
        rows.append(found)
    patterns = [body for body in bodies if body[0] == "name"]
    shapes = [re.compile("".join(".*" if sign == 42 else chr(sign) for sign in body[1])) for body in patterns]
    rows.append({tuple((body, bool(shape.fullmatch(name))) for body, shape in zip(patterns, shapes)) for name in NAMES})
    return rows


def plain_without(policy):
    """The indexes of the rules that decide nothing, and -1 if there is always one that decides."""
    bodies = sorted({body for _, terms in policy for _, body in terms}, key=repr)
    deciding = set()
    for row in itertools.product(*plain_rows(bodies)):
        held = dict(pair for part in row for pair in part)
        decided = [at for at, (_, terms) in enumerate(policy) if all(held[body] != negated for negated, body in terms)]
        deciding.add(decided[0] if decided else -1)
    return [index for index in range(-1, len(policy)) if index not in deciding]


class Numbers(Deciding):
    def test_at_0(self):
        for word in ("size", "pages", "acts", "depth"):
            self.check(f"drop if {word} < 0", 0)
            self.check(f"drop if {word} <= 0")
            self.check(f"drop if {word} = 0")
            self.check(f"drop if {word} >= 0", -1)
            self.check(f"drop if {word} > 0")

    def test_at_the_upper_bounds(self):
        for word, most in (("size", TOP), ("pages", 8), ("depth", 4)):
            self.check(f"drop if {word} > {most}", 0)
            self.check(f"drop if {word} >= {most}")
            self.check(f"drop if {word} = {most}")
            self.check(f"drop if {word} <= {most}", -1)
            self.check(f"drop if {word} < {most}")
            self.check(f"drop if {word} = {most - 1}")
        for word, most in (("pages", 8), ("depth", 4)):
            for number in (most + 1, 99, 100):
                self.check(f"drop if {word} = {number}", 0)
                self.check(f"drop if {word} >= {number}", 0)
                self.check(f"drop if {word} < {number}", -1)

    def test_one_below_the_upper_bounds(self):
        for word, most in (("size", TOP), ("pages", 8), ("depth", 4)):
            self.check(f"drop if {word} > {most - 1}")
            self.check(f"drop if {word} > {most - 1} and {word} < {most}", 0)
        self.check("drop if size > 0 and size < 2")
        self.check("drop if size > 5 and size < 7\nclean if size = 6", 1)

    def test_many_acts(self):
        # There may be more acts than any number says.
        for sign in ("<", "<=", "=", ">=", ">"):
            self.check(f"drop if acts {sign} 100")
        self.check("drop if acts > 100 and act link and not act form")
        self.check("drop if acts < 100\nhold if acts > 100\nclean if acts = 100\ndrop", -1, 3)

    def test_beside_each_other(self):
        self.check("drop if size < 10\nhold if size > 10\nclean if size = 10\ndrop", -1, 3)
        self.check("drop if size < 10\nhold if size > 11\nclean if size = 10\ndrop", -1)
        self.check("drop if size > 10 and size < 12 and not size = 11", 0)
        self.check("drop if size > 10 and size < 13 and not size = 11")


class Acts(Deciding):
    def test_as_many_as_kinds(self):
        self.check("drop if acts >= 3\nclean if act open and act file and act link", 1)
        self.check("drop if acts > 3\nclean if act open and act file and act link")
        self.check("drop if acts = 1 and act open and act file", 0)
        self.check("drop if acts = 2 and act open and act file")

    def test_several_kinds_in_each_number(self):
        for number in (2, 3, 4, 5, 6, 7, 99, 100):
            self.check(f"drop if act open and act file and acts = {number}")
            self.check(f"drop if act open and not act file and acts = {number}")
            self.check(f"drop if act open and act file and acts > {number}")
        for number in (3, 4, 5, 6, 7, 100):
            self.check(f"hold if not act open\ndrop if act file and act link and acts = {number}")

    def test_five_and_six_kinds(self):
        three = "hold if not act open\nhold if not act file\nhold if not act link\n"
        self.check(three + "drop if act form and act fetch and act script")
        found = example(read_policy(three + "drop if act form and act fetch and act script"), 3)
        self.assertEqual(set(found[5]), set(ACT_KINDS))
        two = "hold if not act open\nhold if not act file\n"
        for number, without in ((4, [3]), (5, [3]), (6, []), (7, [])):
            self.check(two + f"hold if acts >= {number}\ndrop if act link and act form and act fetch", *without)

    def test_acts_of_no_kind(self):
        # Some act must be of a kind.
        self.check("drop if act open\ndrop if act file\ndrop if act link\nclean if acts > 0")
        policy = read_policy("hold if act open\nhold if act file\nhold if act link\ndrop if acts > 0")
        self.assertIn(example(policy, 3)[5][0], ("form", "fetch", "script"))
        begin = "clean if acts = 0\nhold if act open\nhold if act file\n"
        first = read_policy(begin + "clean if not act link and not act form")
        second = read_policy(begin + "clean if act fetch and not act link and not act form")
        found = difference(first, second)
        self.assertEqual(set(found[5]), {"script"})
        self.check_difference(first, second, True)
        third = read_policy("hold if act open\nhold if act file\ndrop if acts > 0\nclean")
        self.check_examples(third)

    def test_all_six_kinds(self):
        # Without any of the six kinds there are no acts.
        first = read_policy("drop if act open\ndrop if act file\ndrop if act link\ndrop if acts > 0")
        second = read_policy("drop if acts > 0")
        self.check_difference(first, second, False)
        none = " and ".join(f"not act {kind}" for kind in ACT_KINDS[:3])
        others = " and ".join(f"not act {kind}" for kind in ACT_KINDS[3:])
        one = read_policy(f"drop if {none}\nclean")
        both = read_policy(f"drop if {none}\nclean if {others}\nclean")
        self.check_difference(one, both, False)
        # Those for which both rules would hold have no acts.
        self.check_difference(read_policy(f"clean if acts > 0 and not act open\nhold if {none}\ndrop"),
                              read_policy("clean if acts > 0 and not act open\nhold if acts = 0\ndrop"), False)


class Kinds(Deciding):
    def test_kinds_that_exclude_each_other(self):
        for one, other in itertools.combinations(KINDS + ("none",), 2):
            self.check(f"drop if is {one} and is {other}", 0)
        for one, other in itertools.combinations(KINDS, 2):
            without = [] if other in ("folio", "crate") else [0]
            self.check(f"drop if could {one} and could {other}", *without)
            self.check(f"drop if is {one} and could {other}", *without)
        self.check("drop if could still and could folio and could crate")

    def test_a_kind_is_possible(self):
        for kind in KINDS:
            self.check(f"drop if could {kind}\nclean if is {kind}", 1)
            self.check(f"drop if is {kind} and not could {kind}", 0)
        for kind in KINDS[:4]:
            # If one of these could be the kind, it is.
            self.check(f"drop if is {kind}\nclean if could {kind}", 1)
        for kind in ("folio", "crate"):
            self.check(f"drop if is {kind}\nclean if could {kind}")

    def test_no_kind(self):
        self.check("drop if is none and could folio", 0)
        self.check("drop if could folio\ndrop if could crate\nclean if not is none and not is still and not is film")
        self.check("drop if not is none\nclean if could film", 1)

    def test_folio_and_crate(self):
        self.check("drop if is folio\nhold if is crate\nclean if could folio and could crate")
        self.check("drop if is folio\nhold if is crate\nclean if could folio and not could still and not could picture")


class Names(Deciding):
    def test_patterns_that_contain_each_other(self):
        for outer, inner in (("*", "a"), ("a*", "ab*"), ("*a", "*ba"), ("*a*", "*a*a*"), ("*a*", "a"), ("a*b", "a*b*b"),
                             ("*", ""), ("*a*b*", "*ab*"), ("a*a", "aa*a"), ("*ab", "*aab")):
            always = [-1] if outer == "*" else []
            self.check(f'drop if name "{outer}"\nclean if name "{inner}"', *always, 1)
            self.check(f'drop if name "{inner}"\nclean if name "{outer}"', *always)

    def test_stars_side_by_side(self):
        for one, other in (("a**b", "a*b"), ("**a", "*a"), ("a***", "a*")):
            self.check(f'drop if name "{one}"\nclean if name "{other}"', 1)
            self.check(f'drop if name "{other}"\nclean if name "{one}"', 1)
        self.check('drop if name "*"\nclean if name "**"', -1, 1)

    def test_patterns_that_cover_each_other(self):
        self.check('drop if name ""\nhold if name "a*"\nclean if not name "a*" and name "*"\ndrop', -1, 3)
        self.check('drop if name "*a"\nhold if name "a*"\nclean if name "a"', 2)
        self.check('drop if name "a*" and name "*b"\nclean if name "ab"\nhold if name "a*b"', 1, 2)
        self.check('drop if name "*a*b*" and name "*b*a*" and not name "*aba*"')

    def test_stars_in_patterns_are_never_letters(self):
        # A star in a name is any byte.
        self.check('drop if name "*" and not name "a*" and not name ""')
        self.check('drop if not name "*"', 0)

    def test_other_bytes(self):
        # Some byte stands at no place of the patterns, whatever they are.
        for one, other in (")+", "+)", "ab", "!a"):
            self.check(f'drop if name ""\ndrop if name "{one}*"')
            self.check(f'drop if name ""\ndrop if name "{one}*"\ndrop if name "{other}*"')
            self.check(f'drop if not name "{one}*" and not name "{other}*" and not name ""')

    def test_every_byte(self):
        # Together these have nearly all bytes that a name could begin with.
        signs = [at for at in range(256) if at != 42]
        rules = []
        for begin in range(0, 255, 20):
            rules.append((False, ("name", tuple(signs[begin:begin + 20]))))
        verdicts = ("drop", "drop", "hold", "clean")
        policy = tuple((verdict, tuple(rules[3 * at:3 * at + 3])) for at, verdict in enumerate(verdicts))
        self.assertTrue(is_policy(policy))
        self.assertEqual(self.check_examples(policy), [0, 1, 2, 3])
        single = tuple((verdict, (rule,)) for verdict, rule in zip(("drop", "clean", "hold", "drop"), rules))
        self.assertEqual(self.check_examples(single), [])

    def test_long_patterns(self):
        long = "a" * 20
        self.check(f'drop if name "{long}"')
        self.assertEqual(example(named(long), 0)[0], (97,) * 20)
        for pattern in ("*" + "a" * 19, "a" * 19 + "*", "a" * 9 + "*" + "b" * 10, "*".join("abcdefghij") + "*",
                        "*" * 20, "ab" * 10):
            self.check(f'drop if name "{pattern}"', *([-1] if pattern == "*" * 20 else []))
        self.check(f'drop if name "*{"a" * 9}b{"a" * 9}" and name "a*" and not name "b*"')
        self.check(f'drop if name "*{"ab" * 9}*" and name "{"ba" * 9}*" and name "*aaa"')

    def test_a_name_that_must_be_long(self):
        policy = named("*" + "a" * 15 + "*", "*" + "b" * 15 + "*")
        found = example(policy, 0)
        self.check_told(found)
        self.assertEqual(judge(policy, found), ("drop", 0))
        self.assertGreaterEqual(len(found[0]), 30)


LETTERS = "abcdefghi"


class Bounds(Deciding):
    # Each of these patterns is matched or not: 2 ** 9 = 512 states.
    nine = named(*[f"*{letter}*" for letter in LETTERS])

    def check_bound(self, policy, is_too_much):
        self.assertEqual(plain_states([policy]) > 512, is_too_much)
        if not is_too_much:
            self.check_examples(policy)
            return
        for index in range(-1, len(policy)):
            with self.assertRaises(TooMuch):
                example(policy, index)
        with self.assertRaises(TooMuch):
            shadowed(policy)
        for other in ((), policy):
            for first, second in ((policy, other), (other, policy)):
                with self.assertRaises(TooMuch):
                    difference(first, second)

    def test_512_states(self):
        self.assertEqual(plain_states([self.nine]), 512)
        self.check_bound(self.nine, False)

    def test_513_states(self):
        # The empty pattern is matched at the beginning only: one more state.
        policy = self.nine + named("")
        self.assertEqual(plain_states([policy]), 513)
        self.check_bound(policy, True)

    def test_shadowed_rules_count_too(self):
        policy = (("drop", ()),) + self.nine[:2] + named("*g*", "*h*", "*i*")
        self.assertEqual(plain_states([policy]), 512)
        self.check_bound(policy, False)
        self.check_bound(policy[:3] + named("*g*", "*h*", "*ij*"), True)

    def test_the_same_pattern_counts_once(self):
        policy = self.nine + named("*a*", "*b*", "*i*")
        self.assertEqual(plain_states([policy]), 512)
        self.check_bound(policy, False)

    def test_negated_terms_count_too(self):
        policy = tuple((verdict, tuple((True, body) for _, body in terms)) for verdict, terms in self.nine)
        self.check_bound(policy, False)
        self.check_bound(policy + named(""), True)

    def test_other_numbers_of_states(self):
        # Patterns that end do not multiply as much: k signs have k + 2 states.
        for pattern, count in (("", 2), ("a", 3), ("abc", 5), ("*", 1), ("*a", 2), ("*aa", 3), ("a*", 3), ("*a*", 2),
                               ("**a**", 2)):
            self.assertEqual(plain_states([named(pattern)]), count)
            self.check_bound(named(pattern), False)
        policy = named(*[f"*{letter}*" for letter in "abcdefgh"], "*xx")
        self.assertEqual(plain_states([policy]), 768)
        self.check_bound(policy, True)
        policy = named(*[f"*{letter}*" for letter in "abcdefg"], "*xyz")
        self.assertEqual(plain_states([policy]), 512)
        self.check_bound(policy, False)

    def test_two_policies_together(self):
        first = named(*[f"*{letter}*" for letter in "abcde"])
        second = named(*[f"*{letter}*" for letter in "fghi"], verdict="clean")
        self.assertEqual(plain_states([first, second]), 512)
        self.check_difference(first, second, True)
        more = second + named("")
        self.assertEqual(plain_states([first, more]), 513)
        for one, other in ((first, more), (more, first)):
            with self.assertRaises(TooMuch):
                difference(one, other)
        # Each of them alone is small.
        self.check_examples(first)
        self.check_examples(more)
        # Patterns that both have count once.
        self.check_difference(self.nine, self.nine[:2], True)
        self.check_difference(self.nine, self.nine, False)

    def test_drawn_numbers_of_states(self):
        source = drawn(86)
        few = 0
        for _ in range(60):
            lengths = [source.randint(0, 9) for _ in range(source.randint(1, 6))]
            patterns = ["".join(source.choice("*abc") for _ in range(length)) for length in lengths]
            policy = named(*patterns)
            few += plain_states([policy]) <= 512
            self.check_bound(policy, plain_states([policy]) > 512)
        self.assertTrue(0 < few)

    def test_the_order_of_errors(self):
        too_much = self.nine + named("")
        for value in (None, 5, [], "drop", (("drop",),), (("drop", ()),) * 5):
            for index in (-1, 0, 99):
                with self.assertRaises(Malformed):
                    example(value, index)
            with self.assertRaises(Malformed):
                shadowed(value)
            for first, second in ((value, ()), ((), value), (value, value), (value, too_much), (too_much, value)):
                with self.assertRaises(Malformed):
                    difference(first, second)
        for index in (-2, -3, 4, 5, 99, -99):
            with self.assertRaises(NotThere):
                example(too_much, index)
        for index in (-1, 0, 3):
            with self.assertRaises(TooMuch):
                example(too_much, index)

    def test_indexes(self):
        policy = read_policy("drop if is folio\nclean if is crate")
        for index in (-1, 0, 1):
            self.assertIsNotNone(example(policy, index))
        for index in (-2, 2, 3, 100):
            with self.assertRaises(NotThere):
                example(policy, index)
        for index in (-2, 0, 1):
            with self.assertRaises(NotThere):
                example((), index)


def plain_states(policies):
    """Point 192, word by word: how many states there are for all names."""
    patterns = sorted({body[1] for policy in policies for _, terms in policy for _, body in terms if body[0] == "name"})

    def closed(pattern, places):
        for at, sign in enumerate(pattern):
            if at in places and sign == 42:
                places = places | {at + 1}
        return frozenset(places)

    def after(pattern, places, byte):
        moved = {at + 1 for at in places if at < len(pattern) and pattern[at] == byte and byte != 42}
        return closed(pattern, moved | {at for at in places if at < len(pattern) and pattern[at] == 42})

    first = tuple(closed(pattern, {0}) for pattern in patterns)
    seen, waiting = {first}, [first]
    used = sorted({byte for pattern in patterns for byte in pattern} | {42, 7})
    while waiting and len(seen) < 1000:
        state = waiting.pop()
        for byte in used:
            found = tuple(after(pattern, places, byte) for pattern, places in zip(patterns, state))
            if found not in seen:
                seen.add(found)
                waiting.append(found)
    return len(seen)


class Differences(Deciding):
    def check_texts(self, first, second, is_one):
        self.check_difference(read_policy(first), read_policy(second), is_one)

    def test_no_rules(self):
        self.check_texts("", "", False)
        self.check_texts("", "hold", False)
        self.check_texts("", "hold if is folio", False)
        self.check_texts("", "drop", True)
        self.check_texts("", "drop if pages > 8", False)
        self.check_texts("", "drop if pages > 7", True)

    def test_verdicts(self):
        for one, other in itertools.product(("clean", "hold", "drop"), repeat=2):
            self.check_texts(one, other, one != other)
            self.check_texts(f"{one} if is folio", f"{other} if is folio", one != other)

    def test_the_order_of_rules(self):
        self.check_texts("drop if is folio\nclean if is crate", "clean if is crate\ndrop if is folio", False)
        self.check_texts("drop if could folio\nclean if could crate", "clean if could crate\ndrop if could folio", True)
        self.check_texts("drop if is folio\nclean", "clean if not is folio\ndrop", False)

    def test_the_same_said_in_another_way(self):
        self.check_texts("drop if size < 10", "drop if not size >= 10", False)
        self.check_texts("drop if size < 10", "drop if size <= 9", False)
        self.check_texts("drop if size < 10", "drop if size <= 10", True)
        self.check_texts('drop if name "a*"', 'drop if name "a**"', False)
        self.check_texts('drop if name "*a*"', 'drop if name "*a"\ndrop if name "*a*"', False)
        self.check_texts("drop if acts > 0", "drop if not acts = 0", False)
        self.check_texts("drop if acts < 1", "drop if acts = 0", False)
        self.check_texts("drop if is still", "drop if could still", False)
        self.check_texts("drop if is folio", "drop if could folio", True)
        self.check_texts("drop if act open", "drop if act open and acts >= 1", False)
        self.check_texts("drop if act open and act file", "drop if act file and act open and acts > 1", False)
        self.check_texts("drop if act open and act file", "drop if act file and act open and acts > 2", True)

    def test_a_difference_in_one_place_only(self):
        self.check_texts('drop if name "aaaa" and size = 77 and pages = 3', "", True)
        self.check_texts('drop if acts = 100 and act form and depth = 4\nclean', 'clean', True)

    def test_drawn_policies(self):
        source = drawn(87)
        for _ in range(300):
            first, second = drawn_policy(source, 3), drawn_policy(source, 3)
            self.check_difference(first, second, plain_differ(first, second))

    def test_drawn_policies_that_are_nearly_the_same(self):
        source = drawn(88)
        for _ in range(200):
            first = drawn_policy(source, 3, 2)
            second = list(first)
            if second:
                at = source.randrange(len(second))
                second[at] = source.choice((second[at], ("hold", second[at][1]), (second[at][0], second[at][1][:1])))
                source.shuffle(second)
            self.check_difference(first, tuple(second), plain_differ(first, tuple(second)))

    def test_large_policies(self):
        source = drawn(89)
        for _ in range(10):
            first, second = [self.drawn_numbers(source) for _ in range(2)]
            found = difference(first, second)
            if found is not None:
                self.assertNotEqual(judge(first, found)[0], judge(second, found)[0])
            self.assertIsNone(difference(first, first))

    def drawn_numbers(self, source):
        rules = []
        for verdict in ("drop", "clean", "hold", "drop"):
            words = source.choices(("size", "pages", "acts", "depth"), k=3)
            bodies = [(word, sign, source.randint(0, 9)) for word, sign in zip(words, "<>=")]
            rules.append((verdict, tuple((source.random() < 0.5, body) for body in bodies)))
        return tuple(rules)

    def test_copies(self):
        policy = read_policy("drop if is folio and size < 10\nclean if act open")
        check_copies(self, example, policy, 1)
        check_copies(self, shadowed, policy)
        check_copies(self, difference, policy, ())


def plain_differ(first, second):
    bodies = sorted({body for policy in (first, second) for _, terms in policy for _, body in terms}, key=repr)

    def verdict(policy, held):
        for said, terms in policy:
            if all(held[body] != negated for negated, body in terms):
                return said
        return "hold"

    for row in itertools.product(*plain_rows(bodies)):
        held = dict(pair for part in row for pair in part)
        if verdict(first, held) != verdict(second, held):
            return True
    return False


if __name__ == "__main__":
    unittest.main()
