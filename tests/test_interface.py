"""Names, arguments and places of everything that the interface lists."""

import importlib
import inspect
import unittest

FUNCTIONS = {
    "measure": ["budget(count)", "spend(left, cost)"],
    "sums": ["check_sum(data)", "digest(data)"],
    "digits": [
        "to_hex(data)", "from_hex(data, left)", "to_base64(data)", "from_base64(data, left)",
        "write_word(data)", "read_word(text)", "write_number(number)", "read_number(text)",
    ],
    "runs": ["to_runs(data)", "from_runs(data, left)"],
    "window": ["squeeze(data)", "unsqueeze(data, left)"],
    "rows": ["predict(data, width)", "unpredict(data, width, left)"],
    "signs": ["possible_kinds(data)", "kind_of(data)", "plain_name(data)"],
    "crates": ["open_crate(data, left)", "read_content(entry, left)", "write_crate(entries)"],
    "values": [
        "depth(value)", "is_value(value)", "is_book(book)", "find(book, number)", "get(value, key)",
        "follow(book, value, left)", "reach(book)",
    ],
    "reading": ["read_book(data, left)"],
    "writing": ["write_book(book)", "write_value(value)"],
    "streams": ["read_stream(book, value, left)"],
    "runes": ["runes(data)", "rune_bytes(rune)"],
    "outlines": ["scale(outlines, n, m)", "move(outlines, dx, dy)"],
    "grid": ["is_grid(value)", "new_grid(width, height, colour)", "in_box(x, y, box)"],
}


class Interface(unittest.TestCase):
    def test_functions(self):
        for module, listed in FUNCTIONS.items():
            found = importlib.import_module("stillroom." + module)
            for line in listed:
                function = getattr(found, line.split("(")[0])
                self.assertTrue(inspect.isfunction(function), line)
                self.assertEqual(function.__module__, "stillroom." + module)
                self.assertEqual(function.__name__ + str(inspect.signature(function)), line)


if __name__ == "__main__":
    unittest.main()
