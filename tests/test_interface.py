"""Names, arguments and places of everything that the interface lists."""

import importlib
import inspect
import unittest

FUNCTIONS = {
    "measure": ["budget(count)", "spend(left, cost)"],
    "sums": ["check_sum(data)", "digest(data)"],
    "digits": [
        "to_hex(data)", "from_hex(data, left)", "to_base64(data)", "from_base64(data, left)",
        "write_word(data)", "read_word(text)", "write_number(number)", "read_number(text)",
    ],
    "runs": ["to_runs(data)", "from_runs(data, left)"],
    "window": ["squeeze(data)", "unsqueeze(data, left)"],
    "rows": ["predict(data, width)", "unpredict(data, width, left)"],
    "signs": ["possible_kinds(data)", "kind_of(data)", "plain_name(data)"],
    "crates": ["open_crate(data, left)", "read_content(entry, left)", "write_crate(entries)"],
    "values": [
        "depth(value)", "is_value(value)", "is_book(book)", "find(book, number)", "get(value, key)",
        "follow(book, value, left)", "reach(book)",
    ],
    "reading": ["read_book(data, left)"],
    "writing": ["write_book(book)", "write_value(value)"],
    "streams": ["read_stream(book, value, left)"],
    "runes": ["runes(data)", "rune_bytes(rune)"],
    "outlines": ["scale(outlines, n, m)", "move(outlines, dx, dy)"],
    "fonts": [
        "is_font(value)", "read_font(data, left)", "write_font(font)", "plain_font()", "lookup(font, rune)",
        "advance(font, glyph)", "outline(font, glyph, left)",
    ],
    "grid": ["is_grid(value)", "new_grid(width, height, colour)", "in_box(x, y, box)"],
    "filling": [
        "fill(grid, clip, outlines, colour)", "place(grid, clip, picture, box)", "curve(first, control, last)",
        "paint(page, left)",
    ],
    "pictures": ["read_picture(data, left)", "write_picture(grid)"],
    "films": [
        "is_film(value)", "read_film(data, left)", "write_film(film)", "compose(film, left)", "film_pages(data, left)",
    ],
    "styles": ["style_of(book, name)", "number_of(value, low, high, other)", "colour_of(value, other)"],
    "flow": ["break_lines(advances, space, width)"],
    "pages": ["lay_out(book, left)"],
    "cells": ["place_name(place)", "read_place(text)", "read_sheet(data, left)", "write_sheet(sheet)"],
    "formulas": ["read_formula(data)", "write_formula(tree)", "used_places(tree)", "count_trees(tree)"],
    "cellvalues": ["content_value(content)", "tree_value(tree, values)", "sheet_values(sheet, left)"],
    "sheets": ["words_of(value)", "sheet_pages(sheet, left)", "sheet_acts(sheet, left)"],
    "stills": ["write_still(pages)", "read_still(data)"],
    "showing": ["look_at(data, left, level)", "show(data)", "acts(data)", "depth(data)", "alike(first, second)"],
    "cleaning": ["clean(data)"],
    "facts": ["facts_of(name, data)", "is_sound(value)"],
    "policies": [
        "is_policy(value)", "holds(term, facts)", "matches(pattern, name)", "judge(policy, facts)",
        "write_policy(policy)", "read_policy(text)",
    ],
    "deciding": ["example(policy, index)", "shadowed(policy)", "difference(first, second)"],
}


class Interface(unittest.TestCase):
    def test_functions(self):
        for module, listed in FUNCTIONS.items():
            found = importlib.import_module("stillroom." + module)
            for line in listed:
                function = getattr(found, line.split("(")[0])
                self.assertTrue(inspect.isfunction(function), line)
                self.assertEqual(function.__module__, "stillroom." + module)
                self.assertEqual(function.__name__ + str(inspect.signature(function)), line)


if __name__ == "__main__":
    unittest.main()
